/- Package disk: a disk as its callers see it; Append. -/
import Derived.Test.YtdnkdopjlobklaaDk7
namespace Go.Proofs.Ytdnkdopjlobklaa
open Go.RowKit Go.Maps
set_option linter.unusedVariables false
set_option maxRecDepth 20000

abbrev Cont := ByteArray → Option (List Int × Nat)
def setV (V : Cont) (s : ByteArray) (o : Option (List Int × Nat)) : Cont := fun x => if x = s then o else V x
theorem setV_same (V : Cont) (s : ByteArray) (o : Option (List Int × Nat)) : setV V s o s = o := if_pos rfl
theorem setV_other (V : Cont) {s x : ByteArray} (o : Option (List Int × Nat)) (h : x ≠ s) : setV V s o x = V x := if_neg h
def cutV (keep : Int) (p : List Int × Nat) : List Int × Nat := (p.1.take (p.2 + keptN keep (p.1.length - p.2)), p.2 + keptN keep (p.1.length - p.2))
/-- The blocks that belong to a disk. -/
def OwnAll (d mb : Nat) (F : ByteArray → Option Nat) (G : Nat → FD) (k : Nat) : Prop := k = d ∨ k = mb ∨ ∃ s b, F s = some b ∧ (k = b ∨ ∃ x, (G b).a = some x ∧ k = x.block)
/-- A disk with the files V; its blocks are among B. -/
def DV (w : World) (base d mb n : Nat) (off set : Bool) (ah kp wn : Int) (V : Cont) (B : Nat → Prop) : Prop :=
  ∃ F G, DiskIs w base d mb n off set ah kp wn F G ∧ (∀ s, V s = (F s).map fun b => ((G b).zs, (G b).syn)) ∧ ∀ k, OwnAll d mb F G k → B k
/-- From one world to another: what is not among B has stayed, and what is among B' and was there before was among B. -/
def Step (w w' : World) (B B' : Nat → Prop) : Prop := Kept w w' B ∧ ∀ k, k < w.heap.size → B' k → B k
theorem Step.trans {w w1 w2 : World} {B B1 B2 : Nat → Prop} (h : Step w w1 B B1) (h' : Step w1 w2 B1 B2) : Step w w2 B B2 :=
  ⟨h.1.trans h'.1 (fun k hk hb => h.2 k hk hb), fun k hk hb => h.2 k hk (h'.2 k (Nat.lt_of_lt_of_le hk h.1.size) hb)⟩
theorem Step.grown {w w' : World} (B : Nat → Prop) (h : w.grownBy w' none) : Step w w' B B := ⟨Kept.of h (fun k hk => by cases hk), fun k _ hb => hb⟩
theorem DV.row {w : World} {base d mb n : Nat} {off set : Bool} {ah kp wn : Int} {V : Cont} {B : Nat → Prop} (h : DV w base d mb n off set ah kp wn V B) : DRow w d mb off set ah kp wn := by
  obtain ⟨F, G, hd, _⟩ := h
  exact hd.row
theorem DV.kept {w w' : World} {base d mb n : Nat} {off set : Bool} {ah kp wn : Int} {V : Cont} {B : Nat → Prop} (h : DV w base d mb n off set ah kp wn V B) (hg : w.grownBy w' none) : DV w' base d mb n off set ah kp wn V B := by
  obtain ⟨F, G, hd, hv, hb⟩ := h
  exact ⟨F, G, hd.kept hg, hv, hb⟩
theorem DV.rowed {w w' : World} {base d mb n : Nat} {off set off' set' : Bool} {ah kp wn ah' kp' wn' : Int} {V : Cont} {B : Nat → Prop} (h : DV w base d mb n off set ah kp wn V B) (hr : DRow w' d mb off' set' ah' kp' wn') (hg : Kept w w' (fun k => k = d)) : DV w' base d mb n off' set' ah' kp' wn' V B ∧ Step w w' B B := by
  obtain ⟨F, G, hd, hv, hb⟩ := h
  exact ⟨⟨F, G, hd.rowed hr hg, hv, hb⟩, hg.mono (fun k _ hk => hb k (.inl hk)), fun k _ hk => hk⟩
theorem DV.cut {w w' : World} {base d mb n : Nat} {off set off' set' : Bool} {ah kp wn ah' kp' wn' keep : Int} {F : ByteArray → Option Nat} {G : Nat → FD} {V : Cont} {B : Nat → Prop} (hd : DiskIs w' base d mb n off' set' ah' kp' wn' F (fun b => cutD keep (G b))) (hv : ∀ s, V s = (F s).map fun b => ((G b).zs, (G b).syn)) (hb : ∀ k, OwnAll d mb F G k → B k) (hk : Kept w w' (Own0 d mb F)) :
    DV w' base d mb n off' set' ah' kp' wn' (fun s => (V s).map (cutV keep)) B ∧ Step w w' B B := by
  refine ⟨⟨F, _, hd, fun s => ?_, fun k hk' => ?_⟩, hk.mono (fun k _ hk' => hb k ?_), fun k _ hk' => hk'⟩
  · show (V s).map (cutV keep) = _
    rw [hv s]
    cases F s <;> rfl
  · rcases hk' with e | e | ⟨s, b, hs, e⟩
    · exact hb k (.inl e)
    · exact hb k (.inr (.inl e))
    · exact hb k (.inr (.inr ⟨s, b, hs, e⟩))
  · rcases hk' with e | e | ⟨s, hs⟩
    · exact .inl e
    · exact .inr (.inl e)
    · exact .inr (.inr ⟨s, k, hs, .inl rfl⟩)
/-- One file is new or turned. -/
theorem DV.of {w w' : World} {base d mb n' b : Nat} {off set : Bool} {ah kp wn : Int} {F F' : ByteArray → Option Nat} {G G' : Nat → FD} {V : Cont} {B X : Nat → Prop} {s : ByteArray} {f : FD} (hb : ∀ k, OwnAll d mb F G k → B k) (hv : ∀ s, V s = (F s).map fun b => ((G b).zs, (G b).syn))
    (hd : DiskIs w' base d mb n' off set ah kp wn F' G') (hF : F' s = some b) (hG : G' b = f) (hoF : ∀ t, t ≠ s → F' t = F t) (hoG : ∀ t k, t ≠ s → F t = some k → G' k = G k) (hk : Kept w w' X) (hX : ∀ k, X k → OwnAll d mb F G k)
    (hnb : ¬ F s = some b → w.heap.size ≤ b) (hna : ∀ x, f.a = some x → (F s = some b ∧ (G b).a = some x) ∨ w.heap.size ≤ x.block ∨ (∃ y, F s = some b ∧ (G b).a = some y ∧ x.block = y.block)) :
    ∃ B', DV w' base d mb n' off set ah kp wn (setV V s (some (f.zs, f.syn))) B' ∧ Step w w' B B' := by
  refine ⟨OwnAll d mb F' G', ⟨F', G', hd, fun t => ?_, fun k hk => hk⟩, hk.mono (fun k _ hx => hb k (hX k hx)), fun k hlt hk' => ?_⟩
  · by_cases e : t = s
    · subst e
      rw [setV_same, hF, Option.map_some, hG]
    · rw [setV_other V _ e, hv t, hoF t e]
      cases hFt : F t with
      | none => rfl
      | some k => simp only [Option.map_some, hoG t k e hFt]
  · rcases hk' with e | e | ⟨t, b', ht, e⟩
    · exact hb k (.inl e)
    · exact hb k (.inr (.inl e))
    · by_cases es : t = s
      · subst es
        obtain rfl : b' = b := Option.some.inj (ht.symm.trans hF)
        rcases e with rfl | ⟨x, hx, rfl⟩
        · by_cases hFs : F t = some k
          · exact hb k (.inr (.inr ⟨t, k, hFs, .inl rfl⟩))
          · have := hnb hFs; omega
        · rw [hG] at hx
          rcases hna x hx with ⟨h1, h2⟩ | h1 | ⟨y, h1, h2, h3⟩
          · exact hb _ (.inr (.inr ⟨t, b', h1, .inr ⟨x, h2, rfl⟩⟩))
          · omega
          · exact hb _ (.inr (.inr ⟨t, b', h1, .inr ⟨y, h2, h3⟩⟩))
      · rw [hoF t es] at ht
        rw [hoG t b' es ht] at e
        exact hb k (.inr (.inr ⟨t, b', ht, e⟩))
end Go.Proofs.Ytdnkdopjlobklaa
