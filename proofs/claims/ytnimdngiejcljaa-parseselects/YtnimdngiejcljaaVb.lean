/- More fuel: the same answer. -/
import Derived.Test.YtnimdngiejcljaaZb
namespace Go.Proofs.Ytnimdngiejcljaa
open Go.RowKit
set_option linter.unusedVariables false
set_option linter.unusedSimpArgs false
set_option maxRecDepth 20000

/-- Where there is an answer, it is the same. -/
def Rs.le {α : Type} (x y : Rs α) : Prop := x = .out ∨ x = y
theorem Rs.le.rfl {α : Type} {x : Rs α} : x.le x := .inr _root_.rfl
theorem le_bind {α β : Type} {x y : Rs α} {f g : α → List Tok → Rs β} (h : x.le y) (hf : ∀ a r, (f a r).le (g a r)) : (x.bind f).le (y.bind g) := by
  rcases h with h | h
  · rw [h]; exact .inl _root_.rfl
  · rw [← h]
    cases x with
    | ok a r => exact hf a r
    | bad p c => exact .inr _root_.rfl
    | out => exact .inl _root_.rfl
theorem le_same {α β : Type} {x : Rs α} {f g : α → List Tok → Rs β} (hf : ∀ a r, (f a r).le (g a r)) : (x.bind f).le (x.bind g) := le_bind .rfl hf
theorem le_nest {sign : ByteArray} {nest : Nat} {X Y : Nat → List Tok → Rs (List Nd)} {ts : List Tok} (hX : ∀ n us, (X n us).le (Y n us)) : (nestR sign nest X ts).le (nestR sign nest Y ts) := by
  unfold nestR
  refine le_same fun a r => ?_
  split
  · exact .rfl
  · exact hX _ _
theorem le_brack {nest : Nat} {X Y : Nat → List Tok → Rs (List Nd)} {ts : List Tok} (hX : ∀ n us, (X n us).le (Y n us)) : (brackR nest X ts).le (brackR nest Y ts) := by
  unfold brackR
  exact le_bind (le_nest hX) fun a r => .rfl
theorem le_one {F nest : Nat} {X Y : Nat → List Tok → Rs (List Nd)} {ts : List Tok} (hX : ∀ n us, (X n us).le (Y n us)) : (oneR F nest X ts).le (oneR F nest Y ts) := by
  unfold oneR
  split
  · exact .rfl
  · split
    · exact le_brack hX
    · split
      · exact le_bind (le_brack hX) fun a r => .rfl
      · split
        · exact le_same fun g r => le_bind (le_brack hX) fun a r => .rfl
        · exact .rfl
theorem le_P1 : ∀ (f lv nest : Nat) (ts : List Tok), (P f lv nest ts).le (P (f + 1) lv nest ts) := by
  intro f
  induction f with
  | zero => intro lv nest ts; exact .inl rfl
  | succ f ih =>
    intro lv nest ts
    rw [P_succ, P_succ]
    split
    · exact le_bind (ih _ _ _) fun a r => le_bind (ih _ _ _) fun b r => .rfl
    · split
      · split
        · exact le_bind (le_nest fun n us => ih 5 n us) fun a r => .rfl
        · exact ih _ _ _
      · split
        · exact le_one fun n us => ih 0 n us
        · split
          · exact .rfl
          · exact le_same fun g r => le_bind (ih _ _ _) fun a r2 => le_bind (ih _ _ _) fun b r3 => .rfl
theorem le_Pk (f : Nat) : ∀ (k lv nest : Nat) (ts : List Tok), (P f lv nest ts).le (P (f + k) lv nest ts) := by
  intro k
  induction k with
  | zero => intro lv nest ts; exact .rfl
  | succ k ih =>
    intro lv nest ts
    rcases ih lv nest ts with h | h
    · exact .inl h
    · rw [h]; exact le_P1 (f + k) lv nest ts
theorem le_P {f f' : Nat} (h : f ≤ f') (lv nest : Nat) (ts : List Tok) : (P f lv nest ts).le (P f' lv nest ts) := by
  have := le_Pk f (f' - f) lv nest ts
  rwa [show f + (f' - f) = f' from by omega] at this
/-- More fuel tells the same. -/
theorem up_P {f f' lv nest : Nat} {ts : List Tok} (h : f ≤ f') (ho : P f lv nest ts ≠ .out) : P f' lv nest ts = P f lv nest ts :=
  ((le_P h lv nest ts).resolve_left ho).symm
end Go.Proofs.Ytnimdngiejcljaa
