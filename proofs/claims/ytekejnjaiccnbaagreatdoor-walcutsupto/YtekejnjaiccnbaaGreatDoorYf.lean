/- WalTorn: the walk. -/
import Derived.Test.YtekejnjaiccnbaaGreatDoorNc
namespace Go.Proofs.YtekejnjaiccnbaaGreatDoor
open Go.RowKit Go.Maps Go.Sort
set_option linter.unusedVariables false
set_option maxRecDepth 20000

theorem lit_own (w : World) (z : Int) (hz : 0 ≤ z ∧ z ≤ 255) : SOwn byteE 5 (w.alloc (.cells #[.int .u8 z] 5)) w.heap.size (.slice (some ⟨w.heap.size, 0, none⟩) 1 1) 1 [z] := by
  have h := (Own.ofBlock (base := w.heap.size) (g := w.heap.size) (n := 1) (zs := [z]) (w := w.alloc (.cells #[.int .u8 z] 5)) (heap_alloc_new w _) (Nat.le_refl _) rfl (by decide) (fun y hy => by simp at hy; subst hy; exact hz)).1
  exact h
theorem RecsIn.reads {W w : World} {a : Option Addr} {ts : List Sl} {recs : List (List Int)} (h : RecsIn W a ts recs) (hg : W.grownBy w none) : Reads w a ts recs :=
  ⟨h.rd.grown hg (by simp), h.len, fun i t r ht hr => ⟨(h.at_ i t r ht hr).1, (h.at_ i t r ht hr).2.1.grown hg (by simp), by have := (h.at_ i t r ht hr).2.2.2; omega⟩⟩
theorem l_same (a b : Option Addr) (ts us : List Sl) (xs : List (List Int)) (n c d : Nat) (w : World) (hx : Reads w a ts xs) (hy : Reads w b us xs) (hn : xs.length = n) (hn4 : n ≤ 4611686018427387904) :
    Calls Tryz.prog 22 #[.slice a n c, .slice b n d] w fun e w' => e = .returned (.bool true) ∧ w.grownBy w' none := by
  refine (l_sameLists a b ts us xs xs n n c d w hx hy hn hn hn4).mono ?_
  rintro e w' ⟨rfl, h⟩
  exact ⟨by simp, h⟩
theorem wrap_in (z : Int) (h : -9223372036854775808 ≤ z) (h' : z ≤ 9223372036854775807) : IntKind.i64.wrap z = z := by simp [IntKind.wrap, IntKind.bits, IntKind.signed]; omega
end Go.Proofs.YtekejnjaiccnbaaGreatDoor
