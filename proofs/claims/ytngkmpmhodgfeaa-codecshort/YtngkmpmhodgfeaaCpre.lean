/- What the calls of package codec answer; the document's own Frame and Unframe. -/
import Derived.Test.YtngkmpmhodgfeaaCunframe
import Derived.Test.YtngkmpmhodgfeaaCback
import Derived.Test.YtngkmpmhodgfeaaCcrc
namespace Go.Proofs.Ytngkmpmhodgfeaa
open Go.RowKit
set_option linter.unusedVariables false

/-- A slice of bytes in new memory, or none. -/
def Out (w w' : World) (a : Option Addr) (N c : Nat) (zs : List Int) : Prop := zs.length = N ∧ Rd w' a zs ∧ (a = none → c = 0) ∧ N ≤ c ∧ ∀ x, a = some x → w.heap.size ≤ x.block
theorem Out.nil (w w' : World) : Out w w' none 0 0 [] := ⟨rfl, ⟨.inl rfl, by simp⟩, fun _ => rfl, Nat.le_refl _, by simp⟩
theorem Own.out {w w' : World} {g N c : Nat} {zs : List Int} (h : Own w' w.heap.size g N c zs) : Out w w' (some ⟨g, 0, none⟩) N c zs := ⟨h.len, h.rd, by simp, h.cap.1, fun x hx => by cases hx; exact h.ge.1⟩
theorem Out.kept {w w' w2 : World} {row : Option Nat} {a : Option Addr} {N c : Nat} {zs : List Int} (h : Out w w' a N c zs) (hg : w'.grownBy w2 row) (hr : ∀ k, row = some k → k < w.heap.size) : Out w w2 a N c zs :=
  ⟨h.1, h.2.1.grown hg (fun x hx e => by have := h.2.2.2.2 x hx; have := hr x.block e.symm; omega), h.2.2.1, h.2.2.2.1, h.2.2.2.2⟩

def uframeR (zs : List Int) (p : Int) : List Int × Int × Int :=
  if (uintR zs p).2.2 ≠ 0 then ([], 0, (uintR zs p).2.2)
  else if 65536 < (uintR zs p).1 then ([], 0, 23)
  else if (zs.length : Int) - (uintR zs p).2.1 < (uintR zs p).1 + 4 then ([], 0, 20)
  else if four (sumR ((zs.drop ((uintR zs p).2.1.toNat + 4)).take (uintR zs p).1.toNat)) = (zs.drop (uintR zs p).2.1.toNat).take 4 then ((zs.drop ((uintR zs p).2.1.toNat + 4)).take (uintR zs p).1.toNat, (uintR zs p).2.1 + 4 + (uintR zs p).1, 0)
  else ([], 0, 22)

/-- The document's Unframe, at any place. -/
theorem runframe (a : Option Addr) (zs : List Int) (L cap : Nat) (p : Int) (rec : List Int) (r2 r3 : Int) (w : World) (hr : Rd w a zs) (hL : zs.length = L) (hcap : L ≤ cap) (hz : (L : Int) ≤ 140737488355000) (hR : uframeR zs p = (rec, r2, r3)) :
    Calls Try.prog 31 #[.slice a L cap, .int .i64 p] w fun e w' => ∃ v N c, e = .returned (.tuple #[.slice v N c, .int .i64 r2, .int .i64 r3]) ∧ Out w w' v N c rec ∧ w.grownBy w' none := by
  obtain ⟨u1, u2, u3, hU⟩ : ∃ u1 u2 u3, uintR zs p = (u1, u2, u3) := ⟨_, _, _, rfl⟩
  unfold uframeR at hR
  rw [hU] at hR
  have early : ∀ c3, rec = [] → r2 = 0 → r3 = c3 → (u3 ≠ 0 ∧ c3 = u3 ∨ u3 = 0 ∧ 65536 < u1 ∧ c3 = 23 ∨ u3 = 0 ∧ u1 ≤ 65536 ∧ (L : Int) - u2 < u1 + 4 ∧ c3 = 20) → Calls Try.prog 31 #[.slice a L cap, .int .i64 p] w fun e w' => ∃ v N c, e = .returned (.tuple #[.slice v N c, .int .i64 r2, .int .i64 r3]) ∧ Out w w' v N c rec ∧ w.grownBy w' none := by
    intro c3 h1 h2 h3 h4
    subst h1 h2 h3
    refine (runframe_early a zs L cap p u1 u2 u3 r3 w hr hL hz hU h4).mono ?_
    rintro e w' ⟨rfl, rfl⟩
    exact ⟨none, 0, 0, rfl, Out.nil _ _, World.grownBy.refl _ _⟩
  by_cases h3 : u3 = 0
  · rw [if_neg (by simpa using h3)] at hR
    by_cases h1 : 65536 < u1
    · rw [if_pos h1] at hR
      simp only [Prod.mk.injEq] at hR
      exact early 23 hR.1.symm hR.2.1.symm hR.2.2.symm (.inr (.inl ⟨h3, h1, rfl⟩))
    · rw [if_neg h1] at hR
      by_cases h2 : (zs.length : Int) - u2 < u1 + 4
      · rw [if_pos h2] at hR
        simp only [Prod.mk.injEq] at hR
        exact early 20 hR.1.symm hR.2.1.symm hR.2.2.symm (.inr (.inr ⟨h3, by omega, by omega, rfl⟩))
      · rw [if_neg h2] at hR
        subst h3
        have hok := uintR_ok hr.byte hU
        obtain ⟨n, rfl⟩ := Int.eq_ofNat_of_zero_le (show 0 ≤ u1 by omega)
        obtain ⟨k, rfl⟩ := Int.eq_ofNat_of_zero_le (show 0 ≤ u2 by omega)
        simp only [Int.toNat_natCast] at hR
        refine (runframe_late a zs L cap p n k _ _ w hr hL hcap hz hU (by omega) (by omega) rfl rfl).mono ?_
        rintro e w' ⟨hg, h⟩
        by_cases hs : four (sumR ((zs.drop (k + 4)).take n)) = (zs.drop k).take 4
        · rw [if_pos hs] at hR
          simp only [Prod.mk.injEq] at hR
          obtain ⟨rfl, rfl, rfl⟩ := hR
          rcases h with ⟨h, _⟩ | ⟨_, g, c, rfl, ho⟩
          · simp [hs] at h
          · exact ⟨_, _, c, rfl, ho.out, hg⟩
        · rw [if_neg hs] at hR
          simp only [Prod.mk.injEq] at hR
          obtain ⟨rfl, rfl, rfl⟩ := hR
          rcases h with ⟨_, rfl⟩ | ⟨h, _⟩
          · exact ⟨none, 0, 0, rfl, Out.nil _ _, hg⟩
          · simp [hs] at h
  · rw [if_pos (by simpa using h3)] at hR
    simp only [Prod.mk.injEq] at hR
    exact early u3 hR.1.symm hR.2.1.symm hR.2.2.symm (.inl ⟨h3, rfl⟩)
def fcode (zs : List Int) : Int := if 65536 < zs.length then 23 else 0
def flist (zs : List Int) : List Int := if 65536 < zs.length then [] else frameR zs
theorem rframe (a : Option Addr) (zs : List Int) (L cap : Nat) (F : List Int) (r : Int) (w : World) (hr : Rd w a zs) (hL : zs.length = L) (hnil : a = none → cap = 0) (hz : L ≤ 140737488355000) (hF : flist zs = F) (hc : fcode zs = r) :
    Calls Try.prog 21 #[.slice a L cap] w fun e w' => ∃ v N c, e = .returned (.tuple #[.slice v N c, .int .i64 r]) ∧ Out w w' v N c F ∧ w.grownBy w' none := by
  unfold flist at hF
  unfold fcode at hc
  by_cases h : 65536 < zs.length
  · rw [if_pos h] at hF hc
    subst hF hc
    refine (rframe_long a L cap w hz (by omega)).mono ?_
    rintro e w' ⟨rfl, rfl⟩
    exact ⟨none, 0, 0, rfl, Out.nil _ _, World.grownBy.refl _ _⟩
  · rw [if_neg h] at hF hc
    subst hF hc
    refine (rframe_short a zs L cap w hr hL hnil (by omega)).mono ?_
    rintro e w' ⟨g, c, N, rfl, ho, hg⟩
    exact ⟨_, _, c, rfl, ho.out, hg⟩
end Go.Proofs.Ytngkmpmhodgfeaa
