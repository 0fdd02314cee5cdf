/- The parser, as maths: enough fuel. -/
import Derived.Test.YtnimdngiejcljaaPv
namespace Go.Proofs.Ytnimdngiejcljaa
open Go.RowKit
set_option linter.unusedVariables false
set_option linter.unusedSimpArgs false
set_option maxRecDepth 20000

theorem nestR_fine {sign : ByteArray} {nest : Nat} {X : Nat → List Tok → Rs (List Nd)} {ts : List Tok} (hX : ∀ us, us.length < ts.length → (X (nest + 1) us).fine us.length) : (nestR sign nest X ts).fine ts.length := by
  unfold nestR must
  split
  · rename_i hb
    rw [bind_ok]
    split
    · trivial
    · have hlt := isB_ne hb
      exact fine_mono (hX _ hlt) (by omega)
  · trivial
theorem brackR_fine {nest : Nat} {X : Nat → List Tok → Rs (List Nd)} {ts : List Tok} (hX : ∀ us, us.length < ts.length → (X (nest + 1) us).fine us.length) : (brackR nest X ts).fine ts.length := by
  unfold brackR
  exact fine_bind (nestR_fine hX) fun a r _ h => fine_mono (fine_bind (need_fine _ r) fun _ r2 _ h2 => h2) h
theorem oneR_fine {F nest : Nat} {X : Nat → List Tok → Rs (List Nd)} {ts : List Tok} (hF : ts.length < F) (hX : ∀ us, us.length < ts.length → (X (nest + 1) us).fine us.length) : (oneR F nest X ts).fine ts.length := by
  unfold oneR
  split
  · exact tail_le ts
  · split
    · exact brackR_fine hX
    · split
      · rename_i h
        have hl := numIn_less h
        exact fine_mono (fine_bind (brackR_fine (nest := nest) (ts := ts.tail) fun us hu => hX us (by omega)) fun a r _ h2 => h2) (by omega)
      · split
        · rename_i h
          have hl := numIn_less h
          refine fine_mono (n := ts.length) (fine_bind (groupR_fine (f := F) (ts := ts.tail) (by omega)) fun g r _ h1 => ?_) (by omega)
          exact fine_mono (fine_bind (brackR_fine (nest := nest) (ts := r) fun us hu => hX us (by omega)) fun a r2 _ h2 => h2) h1
        · exact selR_fine hF
def fuelN (lv n : Nat) : Nat := if lv < 7 then 8 * n + (8 - lv) else 8 * n + 1
theorem P_fine : ∀ (f lv nest : Nat) (ts : List Tok), lv ≤ 11 → ts.length < 5000 → fuelN lv ts.length ≤ f → (P f lv nest ts).fine ts.length := by
  intro f
  induction f with
  | zero => intro lv nest ts h1 h2 h3; unfold fuelN at h3; split at h3 <;> omega
  | succ f ih =>
    intro lv nest ts h1 h2 h3
    unfold fuelN at h3
    rw [P_succ]
    split
    · rename_i hlv
      rw [if_pos (by omega)] at h3
      refine fine_bind (ih (lv + 1) nest ts (by omega) h2 (by unfold fuelN; rw [if_pos (by omega)]; omega)) fun a r _ hr => ?_
      exact fine_mono (fine_bind (ih (lv + 7) nest r (by omega) (by omega) (by unfold fuelN; rw [if_neg (by omega)]; omega)) fun b r2 _ h4 => h4) hr
    · split
      · rename_i hn hlv
        rw [if_pos (by omega)] at h3
        split
        · exact fine_bind (nestR_fine fun us hu => ih 5 (nest + 1) us (by omega) (by omega) (by unfold fuelN; rw [if_pos (by omega)]; omega)) fun a r _ h => h
        · exact ih 6 nest ts (by omega) h2 (by unfold fuelN; rw [if_pos (by omega)]; omega)
      · split
        · rename_i hn hn5 hlv
          rw [if_pos (by omega)] at h3
          exact oneR_fine h2 fun us hu => ih 0 (nest + 1) us (by omega) (by omega) (by unfold fuelN; rw [if_pos (by omega)]; omega)
        · rename_i hn hn5 hn6
          rw [if_neg (by omega)] at h3
          split
          · exact Nat.le_refl _
          · rename_i hne
            have hlt := take_less hne
            have hb := boolR_le (takeN opsR (rowOps (lv - 7)) ts) (takeR opsR (rowOps (lv - 7)) ts)
            refine fine_mono (m := (boolR (takeN opsR (rowOps (lv - 7)) ts) (takeR opsR (rowOps (lv - 7)) ts)).length) (fine_bind (groupR_fine (by omega)) fun g r _ hr => ?_) (by omega)
            refine fine_mono (fine_bind (ih (lv - 6) nest r (by omega) (by omega) (by unfold fuelN; rw [if_pos (by omega)]; omega)) fun a r2 _ hr2 => ?_) hr
            exact fine_mono (fine_bind (ih lv nest r2 h1 (by omega) (by unfold fuelN; rw [if_neg (by omega)]; omega)) fun b r3 _ h4 => h4) hr2
end Go.Proofs.Ytnimdngiejcljaa
