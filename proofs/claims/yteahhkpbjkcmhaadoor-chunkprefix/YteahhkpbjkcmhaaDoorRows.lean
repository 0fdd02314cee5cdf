/-
  NARROWER THAN 'FOR EVERY INPUT', by the rows' own cells (each row's printed sentence says how): ChunkEncodes: laid · ChunkDecodes: laid · ChunkBack: laid · ChunkCuts: laid · ChunkEven: laid · ChunkPrefix: laid.
  DERIVED. THE GIVEN ROWS OF THIS SEAT. 6 by the template 'for every input the law returns true; each argument reads behind the call as it read before'; 0 by the template 'total and deterministic' (their statements: YteahhkpbjkcmhaaDoorTotals.lean).
  GIVEN WITH THE SEED: the statements are not yours to turn. If you find one false, say at which input.
  Laid BY PROGRAM, IN A SANDBOX (cutbox-rows.mjs): the forced cells as the released guide's own fill.sh prints them over the translation d8d38bd423829be4… (all of the seat's roots in one cut). By AI agents, Wed Nov 11 2026. No macro, syntax, notation, axiom, sorry.
-/
import Derived.Test.YteahhkpbjkcmhaaDoorChecked
import GoSem.Claim
import GoSem.ClaimJoined
import GoSem.ClaimMapViews
import Derived.JoinedTies
import Derived.KernelRfl
namespace Go.Proofs.YteahhkpbjkcmhaaDoor
/- THE CELL 'sum', in the pinned program and in every row, IS THE sha256 OF THE DUMP (.gsa) THAT YteahhkpbjkcmhaaDoorProg.lean LOADS. Nothing in Lean hashes anything: it is a label: what it is worth is what the hold of that sum in a sandbox is worth. -/
noncomputable def Tryd.pinned : Pinned := { name := "yteahhkpbjkcmhaadoor", sum := "d8d38bd423829be4c9620d8405abcb846c3d8ce91e7732c1e83de254c8ea2a33", checked := Tryd.checked }
namespace Rows
def none {H : Type} : Left H := { results := [], args := [] }

/- WHAT THE LISTED PACKAGE-LEVEL VARIABLES READ AS WHEN THE CALL BEGINS. Each datum BY PROGRAM (the guide's laid-datum.mjs) off the statement by which the dump's own 'gosem.cut.vars' lays the variable. In a bare row this is a premise. The card (YteahhkpbjkcmhaaDoorCards.lean) ties it to the program's text. -/
def laid_tidewrack_chunk_bendForms {H : Type} : DataW H := .agg [.agg [.lit (.int .u64 0), .lit (.int .i64 1), .lit (.int .i64 0)], .agg [.lit (.int .u64 2), .lit (.int .i64 2), .lit (.int .i64 7)], .agg [.lit (.int .u64 6), .lit (.int .i64 3), .lit (.int .i64 9)], .agg [.lit (.int .u64 14), .lit (.int .i64 4), .lit (.int .i64 12)], .agg [.lit (.int .u64 15), .lit (.int .i64 4), .lit (.int .i64 64)]]

/-- 'tidewracklaw5.ChunkEncodes': WHATEVER THE INPUT: true; the input reads as it did. -/
def chunkEncodesSpec : ChangeSpec := { name := "chunkEncodes", fn := fun _ => fun
  | [d] => { results := [.lit (.bool true)], args := [d] }
  | _ => none }
def chunkEncodesRow : OpenClaim := { program := "yteahhkpbjkcmhaadoor", sum := "d8d38bd423829be4c9620d8405abcb846c3d8ce91e7732c1e83de254c8ea2a33", func := "tidewrack/tidewracklaw5.ChunkEncodes", spec := "chunkEncodes", named := ["tidewrack/chunk.bendForms"], apart := false, laid := [("tidewrack/chunk.bendForms", laid_tidewrack_chunk_bendForms)] }
def ChunkEncodesSaid : Prop := chunkEncodesRow.holds Tryd.pinned (OpenSpec.ofChange chunkEncodesSpec)

/-- ITS FALSE NEIGHBOUR: 'it returns false'. Refute it at one input. -/
def chunkEncodesWrong : ChangeSpec := { name := "chunkEncodes", fn := fun _ => fun
  | [d] => { results := [.lit (.bool false)], args := [d] }
  | _ => none }
def ChunkEncodesWrongFalsely : Prop := chunkEncodesRow.holds Tryd.pinned (OpenSpec.ofChange chunkEncodesWrong)

/-- 'tidewracklaw5.ChunkDecodes': WHATEVER THE INPUT: true; the input reads as it did. -/
def chunkDecodesSpec : ChangeSpec := { name := "chunkDecodes", fn := fun _ => fun
  | [d] => { results := [.lit (.bool true)], args := [d] }
  | _ => none }
def chunkDecodesRow : OpenClaim := { program := "yteahhkpbjkcmhaadoor", sum := "d8d38bd423829be4c9620d8405abcb846c3d8ce91e7732c1e83de254c8ea2a33", func := "tidewrack/tidewracklaw5.ChunkDecodes", spec := "chunkDecodes", named := ["tidewrack/chunk.bendForms"], apart := false, laid := [("tidewrack/chunk.bendForms", laid_tidewrack_chunk_bendForms)] }
def ChunkDecodesSaid : Prop := chunkDecodesRow.holds Tryd.pinned (OpenSpec.ofChange chunkDecodesSpec)

/-- ITS FALSE NEIGHBOUR: 'it returns false'. Refute it at one input. -/
def chunkDecodesWrong : ChangeSpec := { name := "chunkDecodes", fn := fun _ => fun
  | [d] => { results := [.lit (.bool false)], args := [d] }
  | _ => none }
def ChunkDecodesWrongFalsely : Prop := chunkDecodesRow.holds Tryd.pinned (OpenSpec.ofChange chunkDecodesWrong)

/-- 'tidewracklaw5.ChunkBack': WHATEVER THE INPUT: true; the input reads as it did. -/
def chunkBackSpec : ChangeSpec := { name := "chunkBack", fn := fun _ => fun
  | [d1, d2, d3] => { results := [.lit (.bool true)], args := [d1, d2, d3] }
  | _ => none }
def chunkBackRow : OpenClaim := { program := "yteahhkpbjkcmhaadoor", sum := "d8d38bd423829be4c9620d8405abcb846c3d8ce91e7732c1e83de254c8ea2a33", func := "tidewrack/tidewracklaw5.ChunkBack", spec := "chunkBack", named := ["tidewrack/chunk.bendForms"], apart := false, laid := [("tidewrack/chunk.bendForms", laid_tidewrack_chunk_bendForms)] }
def ChunkBackSaid : Prop := chunkBackRow.holds Tryd.pinned (OpenSpec.ofChange chunkBackSpec)

/-- ITS FALSE NEIGHBOUR: 'it returns false'. Refute it at one input. -/
def chunkBackWrong : ChangeSpec := { name := "chunkBack", fn := fun _ => fun
  | [d1, d2, d3] => { results := [.lit (.bool false)], args := [d1, d2, d3] }
  | _ => none }
def ChunkBackWrongFalsely : Prop := chunkBackRow.holds Tryd.pinned (OpenSpec.ofChange chunkBackWrong)

/-- 'tidewracklaw5.ChunkCuts': WHATEVER THE INPUT: true; the input reads as it did. -/
def chunkCutsSpec : ChangeSpec := { name := "chunkCuts", fn := fun _ => fun
  | [d1, d2] => { results := [.lit (.bool true)], args := [d1, d2] }
  | _ => none }
def chunkCutsRow : OpenClaim := { program := "yteahhkpbjkcmhaadoor", sum := "d8d38bd423829be4c9620d8405abcb846c3d8ce91e7732c1e83de254c8ea2a33", func := "tidewrack/tidewracklaw5.ChunkCuts", spec := "chunkCuts", named := ["tidewrack/chunk.bendForms"], apart := false, laid := [("tidewrack/chunk.bendForms", laid_tidewrack_chunk_bendForms)] }
def ChunkCutsSaid : Prop := chunkCutsRow.holds Tryd.pinned (OpenSpec.ofChange chunkCutsSpec)

/-- ITS FALSE NEIGHBOUR: 'it returns false'. Refute it at one input. -/
def chunkCutsWrong : ChangeSpec := { name := "chunkCuts", fn := fun _ => fun
  | [d1, d2] => { results := [.lit (.bool false)], args := [d1, d2] }
  | _ => none }
def ChunkCutsWrongFalsely : Prop := chunkCutsRow.holds Tryd.pinned (OpenSpec.ofChange chunkCutsWrong)

/-- 'tidewracklaw5.ChunkEven': WHATEVER THE INPUT: true; the input reads as it did. -/
def chunkEvenSpec : ChangeSpec := { name := "chunkEven", fn := fun _ => fun
  | [d1, d2, d3, d4] => { results := [.lit (.bool true)], args := [d1, d2, d3, d4] }
  | _ => none }
def chunkEvenRow : OpenClaim := { program := "yteahhkpbjkcmhaadoor", sum := "d8d38bd423829be4c9620d8405abcb846c3d8ce91e7732c1e83de254c8ea2a33", func := "tidewrack/tidewracklaw5.ChunkEven", spec := "chunkEven", named := ["tidewrack/chunk.bendForms"], apart := false, laid := [("tidewrack/chunk.bendForms", laid_tidewrack_chunk_bendForms)] }
def ChunkEvenSaid : Prop := chunkEvenRow.holds Tryd.pinned (OpenSpec.ofChange chunkEvenSpec)

/-- ITS FALSE NEIGHBOUR: 'it returns false'. Refute it at one input. -/
def chunkEvenWrong : ChangeSpec := { name := "chunkEven", fn := fun _ => fun
  | [d1, d2, d3, d4] => { results := [.lit (.bool false)], args := [d1, d2, d3, d4] }
  | _ => none }
def ChunkEvenWrongFalsely : Prop := chunkEvenRow.holds Tryd.pinned (OpenSpec.ofChange chunkEvenWrong)

/-- 'tidewracklaw5.ChunkPrefix': WHATEVER THE INPUT: true; the input reads as it did. -/
def chunkPrefixSpec : ChangeSpec := { name := "chunkPrefix", fn := fun _ => fun
  | [d1, d2] => { results := [.lit (.bool true)], args := [d1, d2] }
  | _ => none }
def chunkPrefixRow : OpenClaim := { program := "yteahhkpbjkcmhaadoor", sum := "d8d38bd423829be4c9620d8405abcb846c3d8ce91e7732c1e83de254c8ea2a33", func := "tidewrack/tidewracklaw5.ChunkPrefix", spec := "chunkPrefix", named := ["tidewrack/chunk.bendForms"], apart := false, laid := [("tidewrack/chunk.bendForms", laid_tidewrack_chunk_bendForms)] }
def ChunkPrefixSaid : Prop := chunkPrefixRow.holds Tryd.pinned (OpenSpec.ofChange chunkPrefixSpec)

/-- ITS FALSE NEIGHBOUR: 'it returns false'. Refute it at one input. -/
def chunkPrefixWrong : ChangeSpec := { name := "chunkPrefix", fn := fun _ => fun
  | [d1, d2] => { results := [.lit (.bool false)], args := [d1, d2] }
  | _ => none }
def ChunkPrefixWrongFalsely : Prop := chunkPrefixRow.holds Tryd.pinned (OpenSpec.ofChange chunkPrefixWrong)

/- THE SECOND FORM. 'bulk': how many values and letters a reading holds, each counted each time it is reached (what is shared counts as often as it is met; a slice's spare places count too). A statement '..UptoSaid' is the law's where the arguments, and the package variables that the reading takes, are together of bulk at most 1048576: NARROWER than '..Said'. Prove '..Said' where nothing that the law and all that it calls make is longer than what came in: it says more and counts as full. Else prove '..UptoSaid'. A law counts once. -/
mutual
def uptoBulk {H : Type} : DataW H → Nat
  | .lit (.string bytes) => bytes.length + 1
  | .lit _ => 1
  | .nil => 1
  | .ptr d => uptoBulk d + 1
  | .slice elems spare => uptoBulkAll elems + uptoBulkAll spare + 1
  | .agg parts => uptoBulkAll parts + 1
  | .iface _ d => uptoBulk d + 1
  | .map entries => uptoBulkEntries entries + 1
  | .held _ => 1
def uptoBulkAll {H : Type} : List (DataW H) → Nat
  | [] => 0
  | d :: r => uptoBulk d + uptoBulkAll r
def uptoBulkEntries {H : Type} : List (Lit × DataW H) → Nat
  | [] => 0
  | x :: r => uptoBulkEntry x + uptoBulkEntries r
def uptoBulkEntry {H : Type} : Lit × DataW H → Nat
  | (.string bytes, d) => bytes.length + uptoBulk d + 1
  | (_, d) => uptoBulk d + 1
 end
def uptoSmall : (H : Type) → List (DataW H) → Bool := fun _ ds => decide (uptoBulkAll ds ≤ 1048576)
def OpenSpec.upto (s : _root_.Go.ChangeSpec) : _root_.Go.OpenSpec := { _root_.Go.OpenSpec.ofChange s with cond := some uptoSmall }

/-- 'tidewracklaw5.ChunkEncodes', WHERE WHAT IT READS IS OF BULK AT MOST 1048576: true; the input reads as it did. -/
def chunkEncodesUptoRow : OpenClaim := { program := "yteahhkpbjkcmhaadoor", sum := "d8d38bd423829be4c9620d8405abcb846c3d8ce91e7732c1e83de254c8ea2a33", func := "tidewrack/tidewracklaw5.ChunkEncodes", spec := "chunkEncodes", named := ["tidewrack/chunk.bendForms"], apart := false, laid := [("tidewrack/chunk.bendForms", laid_tidewrack_chunk_bendForms)], narrowed := true }
def ChunkEncodesUptoSaid : Prop := chunkEncodesUptoRow.holds Tryd.pinned (OpenSpec.upto chunkEncodesSpec)

/-- 'tidewracklaw5.ChunkDecodes', WHERE WHAT IT READS IS OF BULK AT MOST 1048576: true; the input reads as it did. -/
def chunkDecodesUptoRow : OpenClaim := { program := "yteahhkpbjkcmhaadoor", sum := "d8d38bd423829be4c9620d8405abcb846c3d8ce91e7732c1e83de254c8ea2a33", func := "tidewrack/tidewracklaw5.ChunkDecodes", spec := "chunkDecodes", named := ["tidewrack/chunk.bendForms"], apart := false, laid := [("tidewrack/chunk.bendForms", laid_tidewrack_chunk_bendForms)], narrowed := true }
def ChunkDecodesUptoSaid : Prop := chunkDecodesUptoRow.holds Tryd.pinned (OpenSpec.upto chunkDecodesSpec)

/-- 'tidewracklaw5.ChunkBack', WHERE WHAT IT READS IS OF BULK AT MOST 1048576: true; the input reads as it did. -/
def chunkBackUptoRow : OpenClaim := { program := "yteahhkpbjkcmhaadoor", sum := "d8d38bd423829be4c9620d8405abcb846c3d8ce91e7732c1e83de254c8ea2a33", func := "tidewrack/tidewracklaw5.ChunkBack", spec := "chunkBack", named := ["tidewrack/chunk.bendForms"], apart := false, laid := [("tidewrack/chunk.bendForms", laid_tidewrack_chunk_bendForms)], narrowed := true }
def ChunkBackUptoSaid : Prop := chunkBackUptoRow.holds Tryd.pinned (OpenSpec.upto chunkBackSpec)

/-- 'tidewracklaw5.ChunkCuts', WHERE WHAT IT READS IS OF BULK AT MOST 1048576: true; the input reads as it did. -/
def chunkCutsUptoRow : OpenClaim := { program := "yteahhkpbjkcmhaadoor", sum := "d8d38bd423829be4c9620d8405abcb846c3d8ce91e7732c1e83de254c8ea2a33", func := "tidewrack/tidewracklaw5.ChunkCuts", spec := "chunkCuts", named := ["tidewrack/chunk.bendForms"], apart := false, laid := [("tidewrack/chunk.bendForms", laid_tidewrack_chunk_bendForms)], narrowed := true }
def ChunkCutsUptoSaid : Prop := chunkCutsUptoRow.holds Tryd.pinned (OpenSpec.upto chunkCutsSpec)

/-- 'tidewracklaw5.ChunkEven', WHERE WHAT IT READS IS OF BULK AT MOST 1048576: true; the input reads as it did. -/
def chunkEvenUptoRow : OpenClaim := { program := "yteahhkpbjkcmhaadoor", sum := "d8d38bd423829be4c9620d8405abcb846c3d8ce91e7732c1e83de254c8ea2a33", func := "tidewrack/tidewracklaw5.ChunkEven", spec := "chunkEven", named := ["tidewrack/chunk.bendForms"], apart := false, laid := [("tidewrack/chunk.bendForms", laid_tidewrack_chunk_bendForms)], narrowed := true }
def ChunkEvenUptoSaid : Prop := chunkEvenUptoRow.holds Tryd.pinned (OpenSpec.upto chunkEvenSpec)

/-- 'tidewracklaw5.ChunkPrefix', WHERE WHAT IT READS IS OF BULK AT MOST 1048576: true; the input reads as it did. -/
def chunkPrefixUptoRow : OpenClaim := { program := "yteahhkpbjkcmhaadoor", sum := "d8d38bd423829be4c9620d8405abcb846c3d8ce91e7732c1e83de254c8ea2a33", func := "tidewrack/tidewracklaw5.ChunkPrefix", spec := "chunkPrefix", named := ["tidewrack/chunk.bendForms"], apart := false, laid := [("tidewrack/chunk.bendForms", laid_tidewrack_chunk_bendForms)], narrowed := true }
def ChunkPrefixUptoSaid : Prop := chunkPrefixUptoRow.holds Tryd.pinned (OpenSpec.upto chunkPrefixSpec)

end Rows
end Go.Proofs.YteahhkpbjkcmhaaDoor
