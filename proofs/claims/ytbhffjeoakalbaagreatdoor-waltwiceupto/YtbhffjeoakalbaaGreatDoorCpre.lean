/- What the calls of package codec answer; the document's own Frame and Unframe. -/
import Derived.Test.YtbhffjeoakalbaaGreatDoorCtext
import Derived.Lib.SlBytesRow
import Derived.Deep.RegionHeld3
import Derived.Test.YtbhffjeoakalbaaGreatDoorCback
import Derived.Test.YtbhffjeoakalbaaGreatDoorCcrc
namespace Go.Proofs.YtbhffjeoakalbaaGreatDoor
open Go.RowKit
set_option linter.unusedVariables false

/-- A slice of bytes in new memory, or none. -/
def Out (w w' : World) (a : Option Addr) (N c : Nat) (zs : List Int) : Prop := zs.length = N ∧ Rd w' a zs ∧ (a = none → c = 0) ∧ N ≤ c ∧ ∀ x, a = some x → w.heap.size ≤ x.block
theorem Out.nil (w w' : World) : Out w w' none 0 0 [] := ⟨rfl, ⟨.inl rfl, by simp⟩, fun _ => rfl, Nat.le_refl _, by simp⟩
theorem Own.out {w w' : World} {g N c : Nat} {zs : List Int} (h : Own w' w.heap.size g N c zs) : Out w w' (some ⟨g, 0, none⟩) N c zs := ⟨h.len, h.rd, by simp, h.cap.1, fun x hx => by cases hx; exact h.ge.1⟩
theorem Out.kept {w w' w2 : World} {row : Option Nat} {a : Option Addr} {N c : Nat} {zs : List Int} (h : Out w w' a N c zs) (hg : w'.grownBy w2 row) (hr : ∀ k, row = some k → k < w.heap.size) : Out w w2 a N c zs :=
  ⟨h.1, h.2.1.grown hg (fun x hx e => by have := h.2.2.2.2 x hx; have := hr x.block e.symm; omega), h.2.2.1, h.2.2.2.1, h.2.2.2.2⟩

def uframeR (zs : List Int) (p : Int) : List Int × Int × Int :=
  if (uintR zs p).2.2 ≠ 0 then ([], 0, (uintR zs p).2.2)
  else if 65536 < (uintR zs p).1 then ([], 0, 23)
  else if (zs.length : Int) - (uintR zs p).2.1 < (uintR zs p).1 + 4 then ([], 0, 20)
  else if four (sumR ((zs.drop ((uintR zs p).2.1.toNat + 4)).take (uintR zs p).1.toNat)) = (zs.drop (uintR zs p).2.1.toNat).take 4 then ((zs.drop ((uintR zs p).2.1.toNat + 4)).take (uintR zs p).1.toNat, (uintR zs p).2.1 + 4 + (uintR zs p).1, 0)
  else ([], 0, 22)

def fcode (zs : List Int) : Int := if 65536 < zs.length then 23 else 0
def flist (zs : List Int) : List Int := if 65536 < zs.length then [] else frameR zs
theorem rframe (a : Option Addr) (zs : List Int) (L cap : Nat) (F : List Int) (r : Int) (w : World) (hr : Rd w a zs) (hL : zs.length = L) (hnil : a = none → cap = 0) (hz : L ≤ 140737488355000) (hF : flist zs = F) (hc : fcode zs = r) :
    Calls Tryz.prog 80 #[.slice a L cap] w fun e w' => ∃ v N c, e = .returned (.tuple #[.slice v N c, .int .i64 r]) ∧ Out w w' v N c F ∧ w.grownBy w' none := by
  unfold flist at hF
  unfold fcode at hc
  by_cases h : 65536 < zs.length
  · rw [if_pos h] at hF hc
    subst hF hc
    refine (rframe_long a L cap w hz (by omega)).mono ?_
    rintro e w' ⟨rfl, rfl⟩
    exact ⟨none, 0, 0, rfl, Out.nil _ _, World.grownBy.refl _ _⟩
  · rw [if_neg h] at hF hc
    subst hF hc
    refine (rframe_short a zs L cap w hr hL hnil (by omega)).mono ?_
    rintro e w' ⟨g, c, N, rfl, ho, hg⟩
    exact ⟨_, _, c, rfl, ho.out, hg⟩
end Go.Proofs.YtbhffjeoakalbaaGreatDoor
