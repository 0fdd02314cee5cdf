/- What the walks of the laws share. -/
import Derived.Test.YteahhkpbjkcmhaaDoorKface
namespace Go.Proofs.YteahhkpbjkcmhaaDoor
open Go.ChangeShapes Go.WideShapes Go.ChangeAt Go.RowKit
set_option linter.unusedVariables false

theorem DecAns.ex (zs : List Int) : ∃ c ps, DecAns zs c ps := by
  cases h : decR zs with
  | none => exact ⟨52, [], DecAns.none h⟩
  | some qs => exact ⟨0, qs, DecAns.some h⟩
theorem DecAns.det {zs : List Int} {c c' : Int} {ps ps' : List Pt} (h : DecAns zs c ps) (h' : DecAns zs c' ps') : c' = c ∧ ps' = ps := by
  unfold DecAns at h h'
  cases hd : decR zs with
  | none => rw [hd] at h h'; exact ⟨h'.1.trans h.1.symm, h'.2.trans h.2.symm⟩
  | some qs => rw [hd] at h h'; exact ⟨h'.1.trans h.1.symm, h'.2.trans h.2.symm⟩
theorem DecAns.len {zs : List Int} {c : Int} {ps : List Pt} (h : DecAns zs c ps) : ps.length ≤ 8191 := by
  unfold DecAns at h
  cases hd : decR zs with
  | none => rw [hd] at h; rw [h.2]; simp
  | some qs => rw [hd] at h; rw [h.2]; exact (decR_ok hd).2.2.1
/-- What a call made, as the next calls meet it. -/
def PO (w : World) (base : Nat) (v : Option Addr) (n c : Nat) (ps : List Pnt) : Prop := SOwn pntE 41 w base (.slice v n c) n ps
def BO (w : World) (base : Nat) (v : Option Addr) (n c : Nat) (zs : List Int) : Prop := SOwn byteE 5 w base (.slice v n c) n zs
theorem PO.rd {w : World} {base : Nat} {v : Option Addr} {n c : Nat} {ps : List Pnt} (h : PO w base v n c ps) : SRd pntE w v ps := SOwn.rd h
theorem PO.len {w : World} {base : Nat} {v : Option Addr} {n c : Nat} {ps : List Pnt} (h : PO w base v n c ps) : ps.length = n := SOwn.len h
theorem PO.kept {w w' : World} {base : Nat} {v : Option Addr} {n c : Nat} {ps : List Pnt} (h : PO w base v n c ps) (hg : w.grownBy w' none) : PO w' base v n c ps := SOwn.kept h hg (Classical.em _)
theorem PO.other {w w' : World} {base : Nat} {v : Option Addr} {n c g : Nat} {ps : List Pnt} (h : PO w base v n c ps) (hg : w.grownBy w' (some g)) (hne : g < base ∨ w.heap.size ≤ g) : PO w' base v n c ps := SOwn.kept h hg (by
  cases v with
  | none => exact .inl rfl
  | some x =>
    right
    intro e
    have h1 := SOwn.block h x.block rfl
    simp only [Value.ownBlock, Option.some.injEq] at e
    omega)
theorem BO.rd {w : World} {base : Nat} {v : Option Addr} {n c : Nat} {zs : List Int} (h : BO w base v n c zs) (hb : ∀ z ∈ zs, 0 ≤ z ∧ z ≤ 255) : Rd w v zs := sown_rd h hb
theorem BO.len {w : World} {base : Nat} {v : Option Addr} {n c : Nat} {zs : List Int} (h : BO w base v n c zs) : zs.length = n := SOwn.len h
theorem BO.kept {w w' : World} {base : Nat} {v : Option Addr} {n c : Nat} {zs : List Int} (h : BO w base v n c zs) (hg : w.grownBy w' none) : BO w' base v n c zs := SOwn.kept h hg (Classical.em _)
theorem BO.other {w w' : World} {base : Nat} {v : Option Addr} {n c g : Nat} {zs : List Int} (h : BO w base v n c zs) (hg : w.grownBy w' (some g)) (hne : g < base ∨ w.heap.size ≤ g) : BO w' base v n c zs := SOwn.kept h hg (by
  cases v with
  | none => exact .inl rfl
  | some x =>
    right
    intro e
    have h1 := SOwn.block h x.block rfl
    simp only [Value.ownBlock, Option.some.injEq] at e
    omega)
/-- What is spoilt lies within the bounds of its block. -/
theorem PO.apart {w w' : World} {base b2 : Nat} {v v2 : Option Addr} {n c n2 c2 : Nat} {ps qs : List Pnt} (h : PO w base v n c ps) (hs : PO w b2 v2 n2 c2 qs) (hg : w.grownBy w' (Value.slice v2 n2 c2).ownBlock) (hne : ∀ x y, v = some x → v2 = some y → x.block ≠ y.block) : PO w' base v n c ps := SOwn.kept h hg (by
  cases v with
  | none => exact .inl rfl
  | some x =>
    right
    cases v2 with
    | none => simp [Value.ownBlock]
    | some y =>
      intro e
      simp only [Value.ownBlock, Option.some.injEq] at e
      exact hne x y rfl rfl e)
theorem BO.apart {w w' : World} {base b2 : Nat} {v v2 : Option Addr} {n c n2 c2 : Nat} {ps qs : List Int} (h : BO w base v n c ps) (hs : BO w b2 v2 n2 c2 qs) (hg : w.grownBy w' (Value.slice v2 n2 c2).ownBlock) (hne : ∀ x y, v = some x → v2 = some y → x.block ≠ y.block) : BO w' base v n c ps := SOwn.kept h hg (by
  cases v with
  | none => exact .inl rfl
  | some x =>
    right
    cases v2 with
    | none => simp [Value.ownBlock]
    | some y =>
      intro e
      simp only [Value.ownBlock, Option.some.injEq] at e
      exact hne x y rfl rfl e)
theorem PO.block {w : World} {base : Nat} {v : Option Addr} {n c : Nat} {ps : List Pnt} (h : PO w base v n c ps) : ∀ x, v = some x → base ≤ x.block ∧ x.block < w.heap.size := sown_at h
theorem BO.block {w : World} {base : Nat} {v : Option Addr} {n c : Nat} {zs : List Int} (h : BO w base v n c zs) : ∀ x, v = some x → base ≤ x.block ∧ x.block < w.heap.size := sown_at h
/-- A world behind one's own block's writes has still grown from the first. -/
theorem gb_own {W w w' : World} {v : Option Addr} {n c : Nat} (hW : W.grownBy w none) (hg : w.grownBy w' (Value.slice v n c).ownBlock) (hb : ∀ x, v = some x → W.heap.size ≤ x.block) : W.grownBy w' none :=
  gb_trans hW hg (fun k hk => .inl (by
    cases v with
    | none => simp [Value.ownBlock] at hk
    | some x =>
      simp only [Value.ownBlock, Option.some.injEq] at hk
      have := hb x rfl
      omega))
end Go.Proofs.YteahhkpbjkcmhaaDoor
