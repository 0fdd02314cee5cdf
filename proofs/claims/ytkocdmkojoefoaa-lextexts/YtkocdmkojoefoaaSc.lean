/- A scope in which the run jumps to several labels. -/
import Derived.Test.YtkocdmkojoefoaaMb
import Derived.WalkKit
import Derived.WalkMore
import Derived.ScopeJumps
namespace Go.Proofs.Ytkocdmkojoefoaa
open Go.RowKit
set_option linter.unusedVariables false

/-- As Q; by a goto to a label l: J l. -/
def jumps (J : Nat → Act → World → Prop) (Q : Exit → Act → World → Prop) : Exit → Act → World → Prop
  | .goto l, a, w => J l a w
  | e, a, w => Q e a w
theorem jumps_mono {P : Program} {J J' : Nat → Act → World → Prop} {Q : Exit → Act → World → Prop} (h : ∀ l a w, J l a w → J' l a w) {c : Code} {a : Act} {w : World} (hc : c.wp P (jumps J Q) a w) : c.wp P (jumps J' Q) a w := by
  refine Code.wp_mono (fun e a' w' q => ?_) hc
  cases e with
  | goto l => exact h l a' w' q
  | _ => exact q
theorem wp_scope_many {P : Program} {a : Act} {w : World} {Q : Exit → Act → World → Prop} {c : Code} (rest : Nat → Code) (J : Nat → Act → World → Prop) (μ : Nat → Act → World → Nat) (hf : ∀ l a w, J l a w → findLabel c l = some (rest l))
    (first : c.wp P (jumps J Q) a w)
    (pass : ∀ l a w, J l a w → (rest l).wp P (jumps (fun l' a' w' => J l' a' w' ∧ μ l' a' w' < μ l a w) Q) a w) : (Code.scope c).wp P Q a w := by
  intro b k cs
  have hg : ∀ l a w, J l a w → gotoIn l (.inScope c :: k) = some (.code (rest l) :: .inScope c :: k) := fun l a w h => by simp [gotoIn, hf l a w h]
  have key : ∀ n l a w, μ l a w = n → J l a w → ∃ e a' w', Q e a' w' ∧ Arrives P (lone (b.at a (.code (rest l) :: .inScope c :: k)) cs w) b k cs e a' w' := by
    intro n
    induction n using Nat.strongRecOn with
    | _ n ih =>
      intro l a w hn hJ
      obtain ⟨e, a₁, w₁, hq, harr⟩ := pass l a w hJ b (.inScope c :: k) cs
      cases e with
      | normal => exact ⟨.normal, a₁, w₁, hq, Steps.trans harr (.one step_inScope)⟩
      | exit id => exact ⟨.exit id, a₁, w₁, hq, fun k' hk => harr k' (by simp [exitTo, hk])⟩
      | goto l' =>
        obtain ⟨hJ', hlt⟩ := hq
        obtain ⟨e₂, a₂, w₂, hq₂, harr₂⟩ := ih _ (by omega) l' a₁ w₁ rfl hJ'
        exact ⟨e₂, a₂, w₂, hq₂, .of_steps (harr _ (hg _ _ _ hJ')) harr₂⟩
      | ret => exact ⟨_, a₁, w₁, hq, harr⟩
      | panic ch => exact ⟨_, a₁, w₁, hq, harr⟩
      | outgrown => exact ⟨_, a₁, w₁, hq, harr⟩
  obtain ⟨e, a₁, w₁, hq, harr⟩ := first b (.inScope c :: k) cs
  cases e with
  | normal => exact ⟨.normal, a₁, w₁, hq, .head step_scope (Steps.trans harr (.one step_inScope))⟩
  | exit id => exact ⟨.exit id, a₁, w₁, hq, fun k' hk => .head step_scope (harr k' (by simp [exitTo, hk]))⟩
  | goto l' =>
    obtain ⟨e₂, a₂, w₂, hq₂, harr₂⟩ := key _ l' a₁ w₁ rfl hq
    exact ⟨e₂, a₂, w₂, hq₂, .of_steps (.head step_scope (harr _ (hg _ _ _ hq))) harr₂⟩
  | ret => exact ⟨_, a₁, w₁, hq, .of_steps (.one step_scope) harr⟩
  | panic ch => exact ⟨_, a₁, w₁, hq, .of_steps (.one step_scope) harr⟩
  | outgrown => exact ⟨_, a₁, w₁, hq, .of_steps (.one step_scope) harr⟩
/-- What is asked of a pass: behind a jump the label's state, and the measure below m. -/
def onto (J : Nat → Act → World → Prop) (μ : Nat → Act → World → Nat) (m : Nat) (Q : Exit → Act → World → Prop) : Exit → Act → World → Prop := jumps (fun l' a' w' => J l' a' w' ∧ μ l' a' w' < m) Q
def into (J : Nat → Act → World → Prop) (Q : Exit → Act → World → Prop) : Exit → Act → World → Prop := jumps J Q
theorem onto_le {P : Program} {J : Nat → Act → World → Prop} {μ : Nat → Act → World → Nat} {m n : Nat} {Q : Exit → Act → World → Prop} {c : Code} {a : Act} {w : World} (hn : m ≤ n) (h : c.wp P (onto J μ m Q) a w) : c.wp P (onto J μ n Q) a w :=
  jumps_mono (fun l a w h => ⟨h.1, Nat.lt_of_lt_of_le h.2 hn⟩) h
def upon (a : Act) : Nat → Value := fun i => a.tmps.toList.getD i undef
def sel1 {α : Sort _} (x0 z : α) : Nat → α
  | 0 => x0
  | _ => z
def sel4 {α : Sort _} (x0 x1 x2 x3 z : α) : Nat → α
  | 0 => x0
  | 1 => x1
  | 2 => x2
  | 3 => x3
  | _ => z
def sel6 {α : Sort _} (x0 x1 x2 x3 x4 x5 z : α) : Nat → α
  | 0 => x0
  | 1 => x1
  | 2 => x2
  | 3 => x3
  | 4 => x4
  | 5 => x5
  | _ => z
theorem wp_scope_word {P : Program} {a : Act} {w : World} {Q : Exit → Act → World → Prop} {c r0 : Code} (J0 : Act → World → Prop) (μ0 : Act → World → Nat)
    (h0 : findLabel c 0 = some (Code.skip.seq r0))
    (p0 : ∀ a w, J0 a w → r0.wp P (onto (sel1 J0 (fun _ _ => False)) (sel1 μ0 (fun _ _ => 0)) (μ0 a w) Q) a w)
    (first : (∀ a w, J0 a w → r0.wp P (into (sel1 J0 (fun _ _ => False)) Q) a w) → c.wp P (into (sel1 J0 (fun _ _ => False)) Q) a w) : (Code.scope c).wp P Q a w := by
  have q0 := p0
  refine wp_scope_many (sel1 (Code.skip.seq r0) Code.skip) (sel1 J0 (fun _ _ => False)) (sel1 μ0 (fun _ _ => 0)) ?_ (first fun a w h => jumps_mono (fun l a w h => h.1) (q0 a w h)) ?_
  · intro l a w h
    match l, h with
    | 0, _ => exact h0
    | n + 1, h => exact h.elim
  · intro l a w h
    match l, h with
    | 0, h => exact wp_seq (wp_skip (q0 a w h))
    | n + 1, h => exact h.elim
theorem wp_scope_text {P : Program} {a : Act} {w : World} {Q : Exit → Act → World → Prop} {c r0 r1 r2 r3 : Code} (J0 J1 J2 J3 : Act → World → Prop) (μ0 μ1 μ2 μ3 : Act → World → Nat)
    (h0 : findLabel c 0 = some (Code.skip.seq r0))
    (h1 : findLabel c 1 = some (Code.skip.seq r1))
    (h2 : findLabel c 2 = some (Code.skip.seq r2))
    (h3 : findLabel c 3 = some (Code.skip.seq r3))
    (p2 : ∀ a w, J2 a w → r2.wp P (onto (sel4 J0 J1 J2 J3 (fun _ _ => False)) (sel4 μ0 μ1 μ2 μ3 (fun _ _ => 0)) (μ2 a w) Q) a w)
    (p0 : (∀ n a w, J2 a w → μ2 a w ≤ n → r2.wp P (onto (sel4 J0 J1 J2 J3 (fun _ _ => False)) (sel4 μ0 μ1 μ2 μ3 (fun _ _ => 0)) n Q) a w) → ∀ a w, J0 a w → r0.wp P (onto (sel4 J0 J1 J2 J3 (fun _ _ => False)) (sel4 μ0 μ1 μ2 μ3 (fun _ _ => 0)) (μ0 a w) Q) a w)
    (p1 : (∀ n a w, J0 a w → μ0 a w ≤ n → r0.wp P (onto (sel4 J0 J1 J2 J3 (fun _ _ => False)) (sel4 μ0 μ1 μ2 μ3 (fun _ _ => 0)) n Q) a w) → ∀ a w, J1 a w → r1.wp P (onto (sel4 J0 J1 J2 J3 (fun _ _ => False)) (sel4 μ0 μ1 μ2 μ3 (fun _ _ => 0)) (μ1 a w) Q) a w)
    (p3 : (∀ n a w, J1 a w → μ1 a w ≤ n → r1.wp P (onto (sel4 J0 J1 J2 J3 (fun _ _ => False)) (sel4 μ0 μ1 μ2 μ3 (fun _ _ => 0)) n Q) a w) → ∀ a w, J3 a w → r3.wp P (onto (sel4 J0 J1 J2 J3 (fun _ _ => False)) (sel4 μ0 μ1 μ2 μ3 (fun _ _ => 0)) (μ3 a w) Q) a w)
    (first : (∀ a w, J3 a w → r3.wp P (into (sel4 J0 J1 J2 J3 (fun _ _ => False)) Q) a w) → c.wp P (into (sel4 J0 J1 J2 J3 (fun _ _ => False)) Q) a w) : (Code.scope c).wp P Q a w := by
  have q2 := p2
  have q0 := p0 (fun n a w h hn => onto_le hn (q2 a w h))
  have q1 := p1 (fun n a w h hn => onto_le hn (q0 a w h))
  have q3 := p3 (fun n a w h hn => onto_le hn (q1 a w h))
  refine wp_scope_many (sel4 (Code.skip.seq r0) (Code.skip.seq r1) (Code.skip.seq r2) (Code.skip.seq r3) Code.skip) (sel4 J0 J1 J2 J3 (fun _ _ => False)) (sel4 μ0 μ1 μ2 μ3 (fun _ _ => 0)) ?_ (first fun a w h => jumps_mono (fun l a w h => h.1) (q3 a w h)) ?_
  · intro l a w h
    match l, h with
    | 0, _ => exact h0
    | 1, _ => exact h1
    | 2, _ => exact h2
    | 3, _ => exact h3
    | n + 4, h => exact h.elim
  · intro l a w h
    match l, h with
    | 0, h => exact wp_seq (wp_skip (q0 a w h))
    | 1, h => exact wp_seq (wp_skip (q1 a w h))
    | 2, h => exact wp_seq (wp_skip (q2 a w h))
    | 3, h => exact wp_seq (wp_skip (q3 a w h))
    | n + 4, h => exact h.elim
theorem wp_scope_num {P : Program} {a : Act} {w : World} {Q : Exit → Act → World → Prop} {c r0 r1 r2 r3 r4 r5 : Code} (J0 J1 J2 J3 J4 J5 : Act → World → Prop) (μ0 μ1 μ2 μ3 μ4 μ5 : Act → World → Nat)
    (h0 : findLabel c 0 = some (Code.skip.seq r0))
    (h1 : findLabel c 1 = some (Code.skip.seq r1))
    (h2 : findLabel c 2 = some (Code.skip.seq r2))
    (h3 : findLabel c 3 = some (Code.skip.seq r3))
    (h4 : findLabel c 4 = some (Code.skip.seq r4))
    (h5 : findLabel c 5 = some (Code.skip.seq r5))
    (p1 : ∀ a w, J1 a w → r1.wp P (onto (sel6 J0 J1 J2 J3 J4 J5 (fun _ _ => False)) (sel6 μ0 μ1 μ2 μ3 μ4 μ5 (fun _ _ => 0)) (μ1 a w) Q) a w)
    (p4 : (∀ n a w, J1 a w → μ1 a w ≤ n → r1.wp P (onto (sel6 J0 J1 J2 J3 J4 J5 (fun _ _ => False)) (sel6 μ0 μ1 μ2 μ3 μ4 μ5 (fun _ _ => 0)) n Q) a w) → ∀ a w, J4 a w → r4.wp P (onto (sel6 J0 J1 J2 J3 J4 J5 (fun _ _ => False)) (sel6 μ0 μ1 μ2 μ3 μ4 μ5 (fun _ _ => 0)) (μ4 a w) Q) a w)
    (p3 : (∀ n a w, J4 a w → μ4 a w ≤ n → r4.wp P (onto (sel6 J0 J1 J2 J3 J4 J5 (fun _ _ => False)) (sel6 μ0 μ1 μ2 μ3 μ4 μ5 (fun _ _ => 0)) n Q) a w) → ∀ a w, J3 a w → r3.wp P (onto (sel6 J0 J1 J2 J3 J4 J5 (fun _ _ => False)) (sel6 μ0 μ1 μ2 μ3 μ4 μ5 (fun _ _ => 0)) (μ3 a w) Q) a w)
    (p5 : (∀ n a w, J3 a w → μ3 a w ≤ n → r3.wp P (onto (sel6 J0 J1 J2 J3 J4 J5 (fun _ _ => False)) (sel6 μ0 μ1 μ2 μ3 μ4 μ5 (fun _ _ => 0)) n Q) a w) → ∀ a w, J5 a w → r5.wp P (onto (sel6 J0 J1 J2 J3 J4 J5 (fun _ _ => False)) (sel6 μ0 μ1 μ2 μ3 μ4 μ5 (fun _ _ => 0)) (μ5 a w) Q) a w)
    (p2 : (∀ n a w, J5 a w → μ5 a w ≤ n → r5.wp P (onto (sel6 J0 J1 J2 J3 J4 J5 (fun _ _ => False)) (sel6 μ0 μ1 μ2 μ3 μ4 μ5 (fun _ _ => 0)) n Q) a w) → ∀ a w, J2 a w → r2.wp P (onto (sel6 J0 J1 J2 J3 J4 J5 (fun _ _ => False)) (sel6 μ0 μ1 μ2 μ3 μ4 μ5 (fun _ _ => 0)) (μ2 a w) Q) a w)
    (p0 : (∀ n a w, J2 a w → μ2 a w ≤ n → r2.wp P (onto (sel6 J0 J1 J2 J3 J4 J5 (fun _ _ => False)) (sel6 μ0 μ1 μ2 μ3 μ4 μ5 (fun _ _ => 0)) n Q) a w) → ∀ a w, J0 a w → r0.wp P (onto (sel6 J0 J1 J2 J3 J4 J5 (fun _ _ => False)) (sel6 μ0 μ1 μ2 μ3 μ4 μ5 (fun _ _ => 0)) (μ0 a w) Q) a w)
    (first : (∀ a w, J0 a w → r0.wp P (into (sel6 J0 J1 J2 J3 J4 J5 (fun _ _ => False)) Q) a w) → c.wp P (into (sel6 J0 J1 J2 J3 J4 J5 (fun _ _ => False)) Q) a w) : (Code.scope c).wp P Q a w := by
  have q1 := p1
  have q4 := p4 (fun n a w h hn => onto_le hn (q1 a w h))
  have q3 := p3 (fun n a w h hn => onto_le hn (q4 a w h))
  have q5 := p5 (fun n a w h hn => onto_le hn (q3 a w h))
  have q2 := p2 (fun n a w h hn => onto_le hn (q5 a w h))
  have q0 := p0 (fun n a w h hn => onto_le hn (q2 a w h))
  refine wp_scope_many (sel6 (Code.skip.seq r0) (Code.skip.seq r1) (Code.skip.seq r2) (Code.skip.seq r3) (Code.skip.seq r4) (Code.skip.seq r5) Code.skip) (sel6 J0 J1 J2 J3 J4 J5 (fun _ _ => False)) (sel6 μ0 μ1 μ2 μ3 μ4 μ5 (fun _ _ => 0)) ?_ (first fun a w h => jumps_mono (fun l a w h => h.1) (q0 a w h)) ?_
  · intro l a w h
    match l, h with
    | 0, _ => exact h0
    | 1, _ => exact h1
    | 2, _ => exact h2
    | 3, _ => exact h3
    | 4, _ => exact h4
    | 5, _ => exact h5
    | n + 6, h => exact h.elim
  · intro l a w h
    match l, h with
    | 0, h => exact wp_seq (wp_skip (q0 a w h))
    | 1, h => exact wp_seq (wp_skip (q1 a w h))
    | 2, h => exact wp_seq (wp_skip (q2 a w h))
    | 3, h => exact wp_seq (wp_skip (q3 a w h))
    | 4, h => exact wp_seq (wp_skip (q4 a w h))
    | 5, h => exact wp_seq (wp_skip (q5 a w h))
    | n + 6, h => exact h.elim
theorem wp_scope_lex {P : Program} {a : Act} {w : World} {Q : Exit → Act → World → Prop} {c r0 r1 r2 r3 r4 r5 : Code} (J0 J1 J2 J3 J4 J5 : Act → World → Prop) (μ0 μ1 μ2 μ3 μ4 μ5 : Act → World → Nat)
    (h0 : findLabel c 0 = some (Code.skip.seq r0))
    (h1 : findLabel c 1 = some (Code.skip.seq r1))
    (h2 : findLabel c 2 = some (Code.skip.seq r2))
    (h3 : findLabel c 3 = some (Code.skip.seq r3))
    (h4 : findLabel c 4 = some (Code.skip.seq r4))
    (h5 : findLabel c 5 = some (Code.skip.seq r5))
    (p0 : ∀ a w, J0 a w → r0.wp P (onto (sel6 J0 J1 J2 J3 J4 J5 (fun _ _ => False)) (sel6 μ0 μ1 μ2 μ3 μ4 μ5 (fun _ _ => 0)) (μ0 a w) Q) a w)
    (p5 : (∀ n a w, J0 a w → μ0 a w ≤ n → r0.wp P (onto (sel6 J0 J1 J2 J3 J4 J5 (fun _ _ => False)) (sel6 μ0 μ1 μ2 μ3 μ4 μ5 (fun _ _ => 0)) n Q) a w) → ∀ a w, J5 a w → r5.wp P (onto (sel6 J0 J1 J2 J3 J4 J5 (fun _ _ => False)) (sel6 μ0 μ1 μ2 μ3 μ4 μ5 (fun _ _ => 0)) (μ5 a w) Q) a w)
    (p4 : (∀ n a w, J5 a w → μ5 a w ≤ n → r5.wp P (onto (sel6 J0 J1 J2 J3 J4 J5 (fun _ _ => False)) (sel6 μ0 μ1 μ2 μ3 μ4 μ5 (fun _ _ => 0)) n Q) a w) → ∀ a w, J4 a w → r4.wp P (onto (sel6 J0 J1 J2 J3 J4 J5 (fun _ _ => False)) (sel6 μ0 μ1 μ2 μ3 μ4 μ5 (fun _ _ => 0)) (μ4 a w) Q) a w)
    (p3 : (∀ n a w, J4 a w → μ4 a w ≤ n → r4.wp P (onto (sel6 J0 J1 J2 J3 J4 J5 (fun _ _ => False)) (sel6 μ0 μ1 μ2 μ3 μ4 μ5 (fun _ _ => 0)) n Q) a w) → ∀ a w, J3 a w → r3.wp P (onto (sel6 J0 J1 J2 J3 J4 J5 (fun _ _ => False)) (sel6 μ0 μ1 μ2 μ3 μ4 μ5 (fun _ _ => 0)) (μ3 a w) Q) a w)
    (p2 : (∀ n a w, J3 a w → μ3 a w ≤ n → r3.wp P (onto (sel6 J0 J1 J2 J3 J4 J5 (fun _ _ => False)) (sel6 μ0 μ1 μ2 μ3 μ4 μ5 (fun _ _ => 0)) n Q) a w) → ∀ a w, J2 a w → r2.wp P (onto (sel6 J0 J1 J2 J3 J4 J5 (fun _ _ => False)) (sel6 μ0 μ1 μ2 μ3 μ4 μ5 (fun _ _ => 0)) (μ2 a w) Q) a w)
    (p1 : (∀ n a w, J2 a w → μ2 a w ≤ n → r2.wp P (onto (sel6 J0 J1 J2 J3 J4 J5 (fun _ _ => False)) (sel6 μ0 μ1 μ2 μ3 μ4 μ5 (fun _ _ => 0)) n Q) a w) → ∀ a w, J1 a w → r1.wp P (onto (sel6 J0 J1 J2 J3 J4 J5 (fun _ _ => False)) (sel6 μ0 μ1 μ2 μ3 μ4 μ5 (fun _ _ => 0)) (μ1 a w) Q) a w)
    (first : (∀ a w, J1 a w → r1.wp P (into (sel6 J0 J1 J2 J3 J4 J5 (fun _ _ => False)) Q) a w) → c.wp P (into (sel6 J0 J1 J2 J3 J4 J5 (fun _ _ => False)) Q) a w) : (Code.scope c).wp P Q a w := by
  have q0 := p0
  have q5 := p5 (fun n a w h hn => onto_le hn (q0 a w h))
  have q4 := p4 (fun n a w h hn => onto_le hn (q5 a w h))
  have q3 := p3 (fun n a w h hn => onto_le hn (q4 a w h))
  have q2 := p2 (fun n a w h hn => onto_le hn (q3 a w h))
  have q1 := p1 (fun n a w h hn => onto_le hn (q2 a w h))
  refine wp_scope_many (sel6 (Code.skip.seq r0) (Code.skip.seq r1) (Code.skip.seq r2) (Code.skip.seq r3) (Code.skip.seq r4) (Code.skip.seq r5) Code.skip) (sel6 J0 J1 J2 J3 J4 J5 (fun _ _ => False)) (sel6 μ0 μ1 μ2 μ3 μ4 μ5 (fun _ _ => 0)) ?_ (first fun a w h => jumps_mono (fun l a w h => h.1) (q1 a w h)) ?_
  · intro l a w h
    match l, h with
    | 0, _ => exact h0
    | 1, _ => exact h1
    | 2, _ => exact h2
    | 3, _ => exact h3
    | 4, _ => exact h4
    | 5, _ => exact h5
    | n + 6, h => exact h.elim
  · intro l a w h
    match l, h with
    | 0, h => exact wp_seq (wp_skip (q0 a w h))
    | 1, h => exact wp_seq (wp_skip (q1 a w h))
    | 2, h => exact wp_seq (wp_skip (q2 a w h))
    | 3, h => exact wp_seq (wp_skip (q3 a w h))
    | 4, h => exact wp_seq (wp_skip (q4 a w h))
    | 5, h => exact wp_seq (wp_skip (q5 a w h))
    | n + 6, h => exact h.elim
end Go.Proofs.Ytkocdmkojoefoaa
