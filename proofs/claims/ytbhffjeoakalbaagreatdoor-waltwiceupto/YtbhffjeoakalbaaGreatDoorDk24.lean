/- Package disk as a value: Sync and Delete make no file. -/
import Derived.Test.YtbhffjeoakalbaaGreatDoorDk23
namespace Go.Proofs.YtbhffjeoakalbaaGreatDoor
open Go.RowKit Go.Maps
set_option linter.unusedVariables false
set_option maxRecDepth 20000

/-- A call leaves the disk at that value; no file is new. -/
def LeavesN (w : World) (base d mb n : Nat) (r : Int × DSt) (B : Nat → Prop) (e : Ending) (w' : World) : Prop := e = .returned (.int .i64 r.1) ∧ ∃ n' B', n' ≤ n ∧ DS w' base d mb n' r.2 B' ∧ Step w w' B B'
theorem leavesN_same {w w' : World} {base d mb n : Nat} {c : Int} {x : DSt} {B : Nat → Prop} (h : DS w base d mb n x B) (hg : w.grownBy w' none) : LeavesN w base d mb n (c, x) B (.returned (.int .i64 c)) w' :=
  ⟨rfl, n, B, Nat.le_refl _, DV.kept h hg, Step.grown B hg⟩
theorem x_syncN (base d mb n : Nat) (x : DSt) (B : Nat → Prop) (s : ByteArray) (w : World) (h : DS w base d mb n x B) (hok : x.ok) (hnm : nameB s = true) :
    Calls Tryz.prog 53 #[.pointer (some ⟨d, 0, none⟩), .string s] w (LeavesN w base d mb n (x.sync s) B) := by
  obtain ⟨off, set, ah, kp, wn, V⟩ := x
  obtain ⟨hw, ha, hk⟩ := hok
  unfold DSt.sync
  cases off with
  | true =>
    refine (v_syncNot base d mb n true set ah kp wn V B s 60 w h hnm (.inl ⟨rfl, rfl⟩)).mono ?_
    rintro e w' ⟨rfl, hg⟩
    exact leavesN_same h hg
  | false =>
    rw [if_neg (by simp)]
    dsimp only
    cases hV : V s with
    | none =>
      refine (v_syncNot base d mb n false set ah kp wn V B s 62 w h hnm (.inr ⟨rfl, hV, rfl⟩)).mono ?_
      rintro e w' ⟨rfl, hg⟩
      exact leavesN_same h hg
    | some p =>
      obtain ⟨Z, Y⟩ := p
      dsimp only
      unfold DSt.wr
      cases set with
      | false =>
        refine (v_sync base d mb n ah kp wn V B s Z Y w h hnm hV hw).mono ?_
        rintro e w' ⟨rfl, B', hd', hst⟩
        exact ⟨rfl, n, B', Nat.le_refl _, hd', hst⟩
      | true =>
        rw [if_neg (by simp)]
        by_cases h0 : ah = 0
        · subst h0
          refine (v_syncLost base d mb n kp wn V B s Z Y w h hnm hV hw hk).mono ?_
          rintro e w' ⟨rfl, hd', hst⟩
          exact ⟨rfl, n, B, Nat.le_refl _, hd', hst⟩
        · rw [if_neg h0]
          have h1 := ha rfl
          refine (v_syncArmed base d mb n ah kp wn V B s Z Y w h hnm hV hw (by dsimp only at h1; omega)).mono ?_
          rintro e w' ⟨rfl, B', hd', hst⟩
          exact ⟨rfl, n, B', Nat.le_refl _, hd', hst⟩
theorem x_deleteN (base d mb n : Nat) (x : DSt) (B : Nat → Prop) (s : ByteArray) (w : World) (h : DS w base d mb n x B) (hok : x.ok) (hnm : nameB s = true) :
    Calls Tryz.prog 90 #[.pointer (some ⟨d, 0, none⟩), .string s] w (LeavesN w base d mb n (x.delete s) B) := by
  obtain ⟨off, set, ah, kp, wn, V⟩ := x
  obtain ⟨hw, ha, hk⟩ := hok
  unfold DSt.delete
  cases off with
  | true =>
    refine (v_deleteNot base d mb n true set ah kp wn V B s 60 w h hnm (.inl ⟨rfl, rfl⟩)).mono ?_
    rintro e w' ⟨rfl, hg⟩
    exact leavesN_same h hg
  | false =>
    rw [if_neg (by simp)]
    dsimp only
    cases hV : V s with
    | none =>
      refine (v_deleteNot base d mb n false set ah kp wn V B s 62 w h hnm (.inr ⟨rfl, hV, rfl⟩)).mono ?_
      rintro e w' ⟨rfl, hg⟩
      exact leavesN_same h hg
    | some p =>
      obtain ⟨Z, Y⟩ := p
      dsimp only
      unfold DSt.wr
      cases set with
      | false =>
        refine (v_delete base d mb n ah kp wn V B s Z Y w h hnm hV hw).mono ?_
        rintro e w' ⟨rfl, hd', hst⟩
        exact ⟨rfl, n, B, Nat.le_refl _, hd', hst⟩
      | true =>
        rw [if_neg (by simp)]
        by_cases h0 : ah = 0
        · subst h0
          refine (v_deleteLost base d mb n kp wn V B s Z Y w h hnm hV hw hk).mono ?_
          rintro e w' ⟨rfl, hd', hst⟩
          exact ⟨rfl, n, B, Nat.le_refl _, hd', hst⟩
        · rw [if_neg h0]
          have h1 := ha rfl
          refine (v_deleteArmed base d mb n ah kp wn V B s Z Y w h hnm hV hw (by dsimp only at h1; omega)).mono ?_
          rintro e w' ⟨rfl, hd', hst⟩
          exact ⟨rfl, n, B, Nat.le_refl _, hd', hst⟩
end Go.Proofs.YtbhffjeoakalbaaGreatDoor
