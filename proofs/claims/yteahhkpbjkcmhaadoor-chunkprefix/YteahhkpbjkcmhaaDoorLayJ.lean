/- Package chunk: the states of lay. -/
import Derived.Test.YteahhkpbjkcmhaaDoorLay
namespace Go.Proofs.YteahhkpbjkcmhaaDoor
open Go.RowKit
set_option linter.unusedVariables false

def layT (a : Option Addr) (L c p P O : Nat) (s5 s6 s8 : Value) (u : Nat → Value) : Array Value :=
  #[.slice a L c, undef, .slice none 0 0, .pointer (some ⟨p, 0, none⟩), .pointer (some ⟨P, 0, none⟩), s5, s6, .pointer (some ⟨O, 0, none⟩), s8, u 9, u 10, u 11, u 12, u 13, u 14, u 15, u 16, u 17, u 18, u 19, u 20, u 21, u 22, u 23, u 24, u 25, u 26, u 27, u 28, u 29, u 30, u 31, u 32, u 33, u 34, u 35, u 36, u 37, u 38, u 39, u 40, u 41, u 42, u 43, u 44, u 45, u 46, u 47, u 48, u 49, u 50, u 51, u 52, u 53, u 54, u 55, u 56, u 57, u 58, u 59, u 60, u 61, u 62, u 63, u 64, u 65, u 66, u 67, u 68, u 69, u 70, u 71, u 72, u 73, u 74, u 75, u 76, u 77, u 78, u 79, u 80, u 81, u 82, u 83, u 84, u 85, u 86, u 87, u 88, u 89, u 90, u 91, u 92, u 93, u 94, u 95, u 96, u 97, u 98, u 99, u 100, u 101, u 102]
def upon (a : Act) : Nat → Value := fun i => a.tmps.toList.getD i undef
def LayJ0 (a : Option Addr) (ps : List Pnt) (L c p : Nat) (w : World) (a' : Act) (w' : World) : Prop := ∃ (P O : Nat) (s5 s6 s8 : Value) (u : Nat → Value), a' = { tmps := layT a L c p P O (s5) (s6) (s8) u, defers := [] } ∧ WrIs w' p p (encP ps) ∧ w.Since p w'
def LayJ1 (a : Option Addr) (ps : List Pnt) (L c p : Nat) (w : World) (a' : Act) (w' : World) : Prop := ∃ (k P O : Nat) (l : List Bool) (T V d aw bw pa pb A B : Int) (s5 s6 : Value) (u : Nat → Value), a' = { tmps := layT a L c p P O (s5) (s6) (.int .i64 (k : Int)) u, defers := [] } ∧ k < L ∧ EncAt ps (k + 1) l d aw bw ∧ WinP aw bw pa pb ∧ LayW w w' p P O l T V d pa pb A B
def LayJ2 (a : Option Addr) (ps : List Pnt) (L c p : Nat) (w : World) (a' : Act) (w' : World) : Prop := ∃ (k P O : Nat) (l : List Bool) (T V d aw bw pa pb A B : Int) (s5 s6 : Value) (u : Nat → Value), a' = { tmps := layT a L c p P O (s5) (s6) (.int .i64 (k : Int)) u, defers := [] } ∧ k < L ∧ EncAt ps (k + 1) (l ++ [false]) d aw bw ∧ l.length ≤ 1099511627000 ∧ WinP aw bw pa pb ∧ LayW w w' p P O l T V d pa pb A B
def LayJ3 (a : Option Addr) (ps : List Pnt) (L c p : Nat) (w : World) (a' : Act) (w' : World) : Prop := ∃ (k P O an bn : Nat) (l : List Bool) (X T V d A B : Int) (s5 : Value) (u : Nat → Value), a' = { tmps := layT a L c p P O (s5) (.int .u64 X) (.int .i64 (k : Int)) u, defers := [] } ∧ k < L ∧ EncAt ps (k + 1) (l ++ [true, false] ++ bitsI (64 - an - bn) (X / 2 ^ bn)) d an bn ∧ l.length ≤ 1099511627000 ∧ an ≤ 31 ∧ an + bn ≤ 63 ∧ (0 ≤ X ∧ X ≤ 18446744073709551615) ∧ LayW w w' p P O l T V d an bn A B
def layM (L e : Nat) (a' : Act) (_ : World) : Nat := 3 * (L - (intOf (a'.tmps.getD 8 undef)).toNat) + e
def layM0 (_ : Act) (_ : World) : Nat := 0
section
variable {a : Option Addr} {ps : List Pnt} {L c p : Nat} {w w' : World} {a' : Act}
theorem layJ0 (P O : Nat) (s5 s6 s8 : Value) (h : a' = { tmps := layT a L c p P O (s5) (s6) (s8) (upon a'), defers := [] }) (h1 : WrIs w' p p (encP ps)) (h2 : w.Since p w') : LayJ0 a ps L c p w a' w' := ⟨P, O, s5, s6, s8, _, h, h1, h2⟩
theorem layJ1 (k P O : Nat) (l : List Bool) (T V d aw bw pa pb A B : Int) (s5 s6 : Value) (h : a' = { tmps := layT a L c p P O (s5) (s6) (.int .i64 (k : Int)) (upon a'), defers := [] }) (h1 : k < L) (h2 : EncAt ps (k + 1) l d aw bw) (h3 : WinP aw bw pa pb) (h4 : LayW w w' p P O l T V d pa pb A B) : LayJ1 a ps L c p w a' w' := ⟨k, P, O, l, T, V, d, aw, bw, pa, pb, A, B, s5, s6, _, h, h1, h2, h3, h4⟩
theorem layJ2 (k P O : Nat) (l : List Bool) (T V d aw bw pa pb A B : Int) (s5 s6 : Value) (h : a' = { tmps := layT a L c p P O (s5) (s6) (.int .i64 (k : Int)) (upon a'), defers := [] }) (h1 : k < L) (h2 : EncAt ps (k + 1) (l ++ [false]) d aw bw) (h5 : l.length ≤ 1099511627000) (h3 : WinP aw bw pa pb) (h4 : LayW w w' p P O l T V d pa pb A B) : LayJ2 a ps L c p w a' w' := ⟨k, P, O, l, T, V, d, aw, bw, pa, pb, A, B, s5, s6, _, h, h1, h2, h5, h3, h4⟩
theorem layJ3 (k P O an bn : Nat) (l : List Bool) (X T V d A B : Int) (s5 : Value) (h : a' = { tmps := layT a L c p P O (s5) (.int .u64 X) (.int .i64 (k : Int)) (upon a'), defers := [] }) (h1 : k < L) (h2 : EncAt ps (k + 1) (l ++ [true, false] ++ bitsI (64 - an - bn) (X / 2 ^ bn)) d an bn) (h5 : l.length ≤ 1099511627000) (h6 : an ≤ 31) (h7 : an + bn ≤ 63) (h8 : 0 ≤ X ∧ X ≤ 18446744073709551615) (h4 : LayW w w' p P O l T V d an bn A B) : LayJ3 a ps L c p w a' w' := ⟨k, P, O, an, bn, l, X, T, V, d, A, B, s5, _, h, h1, h2, h5, h6, h7, h8, h4⟩
end
end Go.Proofs.YteahhkpbjkcmhaaDoor
