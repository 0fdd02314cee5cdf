/- Lex, as the laws' walks want it. -/
import Derived.Test.YtkocdmkojoefoaaDe
namespace Go.Proofs.Ytkocdmkojoefoaa
open Go.RowKit
set_option linter.unusedVariables false
set_option maxRecDepth 20000

/-- What Lex answers where it answers tokens, as the laws' walks want it. -/
def OkOut (ts : List Tok) (w : World) (e : Ending) (w' : World) : Prop := ∃ g c, e = .returned (.tuple #[.slice (some ⟨g, 0, none⟩) ts.length c, .int .i64 0, .int .i64 0]) ∧ SOwn tokE 32 w' w.heap.size (.slice (some ⟨g, 0, none⟩) ts.length c) ts.length ts ∧ w.grownBy w' none
theorem lex_ok {s : ByteArray} {ts : List Tok} (h : lexR s = .ok ts) (hn : ts ≠ []) (w : World) : Calls Try.prog 9 #[.string s] w fun e w' => OkOut ts w e w' := (f_lex s w).mono fun e w' h2 => by
  rw [h] at h2
  exact lx_slice h2 hn
theorem lex_bad {s : ByteArray} {p : Nat} {c : Int} (h : lexR s = .bad p c) (w : World) : Calls Try.prog 9 #[.string s] w fun e w' => e = .returned (.tuple #[.slice none 0 0, .int .i64 (p : Int), .int .i64 c]) ∧ w.grownBy w' none := (f_lex s w).mono fun e w' h2 => by
  rw [h] at h2
  exact h2
end Go.Proofs.Ytkocdmkojoefoaa
