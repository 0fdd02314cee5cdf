/- What every program answers: the log's awake. -/
import Derived.Test.YtbhffjeoakalbaaGreatDoorXa
namespace Go.Proofs.YtbhffjeoakalbaaGreatDoor
open Go.RowKit Go.Maps Go.Sort
set_option linter.unusedVariables false
set_option maxRecDepth 20000

def dirX : ByteArray := ⟨#[120]⟩
theorem dirX_ok : dirB dirX = true := by decide
def x0 : DSt := ⟨false, false, 0, 0, 0, fun _ => none⟩
theorem x0_calm : x0.Calm := ⟨rfl, rfl, ⟨by decide, (fun h => by cases h), by decide⟩⟩
theorem log0 (dir : ByteArray) : Log (fun _ => none) dir none [] :=
  ⟨⟨⟨by simp [cpNums], fun k hk => by simp [cpNums] at hk⟩, ⟨by simp, fun k hk => by simp at hk⟩, fun s => by simp [namesL, cpNums]⟩, rfl, fun p hp => (by cases hp), fun p hp => (by cases hp), by decide⟩
theorem fl1 (z : Int) : (frameR [z]).length = 6 := by
  have h4 : (four (sumR [z])).length = 4 := rfl
  have h1 : (enc [z].length).length = 1 := by rw [enc_small (by simp)]; rfl
  rw [frameR]
  simp only [List.length_append, h4, h1]
  rfl
theorem keptN0 (u : Nat) : keptN 0 u = 0 := by
  unfold keptN
  simp
/-- One file alone. -/
theorem log1 {V : Cont} {dir : ByteArray} {recs : List (List Int)} {syn : Nat} (hV : V (segN dir 1) = some (logB frameR recs, syn)) (ho : ∀ s, s ≠ segN dir 1 → V s = none) (hr : ∀ r ∈ recs, r.length ≤ 65536) : Log V dir none [(1, recs)] := by
  refine ⟨⟨⟨by simp [cpNums], fun k hk => by simp [cpNums] at hk⟩, ⟨by simp, fun k hk => by simp at hk; omega⟩, fun s => ?_⟩, rfl, fun p hp => ?_, fun p hp => ?_, by decide⟩
  · simp only [namesL, cpNums, List.map_nil, Bool.false_eq_true, if_false, List.nil_append, List.map_cons, List.mem_singleton]
    constructor
    · rintro ⟨h1, _⟩
      by_cases e : s = segN dir 1
      · exact e
      · rw [ho s e] at h1; cases h1
    · rintro rfl
      exact ⟨by rw [hV]; rfl, seg_in dir 1⟩
  · simp only [List.mem_singleton] at hp
    subst hp
    exact ⟨⟨syn, hV⟩, hr, by dsimp only; omega⟩
  · simp only [List.mem_singleton] at hp
    subst hp
    exact Nat.lt_succ_self 0
/-- The disk behind the first calls, and behind the power's going. -/
theorem awake_disk (dir : ByteArray) :
    let xa := appX x0 dir 1 [1]
    let xb := syncX xa dir [1] 1
    let xc := appX xb dir 1 [2]
    Log ({ (xc.power 0) with off := false } : DSt).V dir none [(1, [[1]])] ∧ ({ (xc.power 0) with off := false } : DSt).Calm ∧ ({ (xc.power 0) with off := false } : DSt).wn ≤ 10 := by
  intro xa xb xc
  have ea : xa = ⟨false, false, 0, 0, 0 + 1, setV (fun _ => none) (segN dir 1) (some (frameR [1], 0))⟩ := by
    show appX x0 dir 1 [1] = _
    unfold appX
    have hroll : rollX x0 dir 1 = (x0, 1) := rfl
    rw [hroll, calm_app x0 x0_calm]
    rfl
  have ca : xa.Calm := by rw [ea]; exact calm_next x0 x0_calm (by decide) _
  have va : xa.V (segN dir 1) = some (frameR [1], 0) := by rw [ea]; exact setV_same (fun _ => none) (segN dir 1) (some (frameR [1], 0))
  have eb : xb = { xa with wn := xa.wn + 1, V := setV xa.V (segN dir 1) (some (frameR [1], 6)) } := by
    show syncX xa dir [1] 1 = _
    unfold syncX
    rw [if_pos (by decide), calm_sync xa ca (segN dir 1) _ va]
    dsimp only
    rw [fl1]
  have wa : xa.wn = 1 := by rw [ea]; rfl
  have cb : xb.Calm := by rw [eb]; exact calm_next xa ca (by rw [wa]; decide) _
  have wb : xb.wn = 2 := by rw [eb]; dsimp only; rw [wa]; rfl
  have vb : xb.V (segN dir 1) = some (frameR [1], 6) := by rw [eb]; exact setV_same _ _ _
  have ob : oldV xb.V (segN dir 1) = (frameR [1], 6) := by unfold oldV; rw [vb]; rfl
  have ec : xc = { xb with wn := xb.wn + 1, V := setV xb.V (segN dir 1) (some (frameR [1] ++ frameR [2], 6)) } := by
    show appX xb dir 1 [2] = _
    unfold appX
    have hroll : rollX xb dir 1 = (xb, 1) := by
      unfold rollX
      rw [vb]
      dsimp only
      rw [fl1]
      rfl
    rw [hroll]
    dsimp only
    rw [calm_app xb cb, ob]
  have cc : xc.Calm := by rw [ec]; exact calm_next xb cb (by rw [wb]; decide) _
  have wc : xc.wn = 3 := by rw [ec]; dsimp only; rw [wb]; rfl
  have oth : ∀ s, s ≠ segN dir 1 → xc.V s = none := by
    intro s hs
    rw [ec]
    show setV xb.V _ _ s = none
    rw [setV_other _ _ hs, eb]
    show setV xa.V _ _ s = none
    rw [setV_other _ _ hs, ea]
    exact setV_other (fun _ => none) (some (frameR [1], 0)) hs
  have vc : xc.V (segN dir 1) = some (frameR [1] ++ frameR [2], 6) := by rw [ec]; exact setV_same _ _ _
  have hp : xc.power 0 = ⟨true, false, 0, 0, xc.wn, fun t => (xc.V t).map (cutV 0)⟩ := by
    unfold DSt.power
    rw [if_neg (by rw [cc.on]; simp)]
  rw [hp]
  refine ⟨?_, ⟨rfl, rfl, ⟨(by dsimp only; rw [wc]; decide), (fun h => by cases h), (by dsimp only; omega)⟩⟩, by dsimp only; rw [wc]; decide⟩
  refine log1 (syn := 6) ?_ (fun s hs => ?_) (fun r hr => by simp at hr; subst hr; decide)
  · show (xc.V (segN dir 1)).map (cutV 0) = _
    rw [vc]
    simp only [Option.map_some, cutV, keptN0, Nat.add_zero, logB_one]
    rw [List.take_append_of_le_length (by rw [fl1]; exact Nat.le_refl _), List.take_of_length_le (by rw [fl1]; exact Nat.le_refl _)]
  · show (xc.V s).map (cutV 0) = none
    rw [oth s hs]
    rfl
end Go.Proofs.YtbhffjeoakalbaaGreatDoor
