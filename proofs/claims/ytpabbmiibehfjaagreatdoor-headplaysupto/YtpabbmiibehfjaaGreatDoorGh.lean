/- Several texts in one: Eutf, Eval, Ename, Echeck. -/
import Derived.Test.YtpabbmiibehfjaaGreatDoorGc
import Derived.WalkMore
import Derived.ScopeJumps
import Derived.Test.YtpabbmiibehfjaaGreatDoorGd
/- The program's own isUTF8, isValue. -/
namespace Go.Proofs.YtpabbmiibehfjaaGreatDoor
set_option maxRecDepth 20000
open Go.RowKit
set_option linter.unusedVariables false

/-- As Q; by a goto to a label: J of the label. -/
def jumps (J : Nat → Act → World → Prop) (Q : Exit → Act → World → Prop) : Exit → Act → World → Prop
  | .goto l, a, w => J l a w
  | e, a, w => Q e a w
theorem jumps_mono {P : Program} {J J' : Nat → Act → World → Prop} {Q : Exit → Act → World → Prop} {c : Code} {a : Act} {w : World} (hJ : ∀ l a w, J l a w → J' l a w) (h : c.wp P (jumps J Q) a w) : c.wp P (jumps J' Q) a w := by
  refine Code.wp_mono (fun e a' w' q => ?_) h
  cases e with
  | goto l => exact hJ l a' w' q
  | _ => exact q

/-- A scope with labels: what holds at each, and a measure that every way from one label to the next lowers. -/
theorem wp_scope_labels {P : Program} {a : Act} {w : World} {Q : Exit → Act → World → Prop} {c : Code} (J : Nat → Act → World → Prop) (μ : Nat → Act → World → Nat)
    (first : c.wp P (jumps J Q) a w)
    (pass : ∀ l a w, J l a w → ∃ rest, findLabel c l = some rest ∧ rest.wp P (jumps (fun l' a' w' => J l' a' w' ∧ μ l' a' w' < μ l a w) Q) a w) : (Code.scope c).wp P Q a w := by
  intro b k cs
  have key : ∀ n l a w, μ l a w = n → J l a w → ∃ rest, findLabel c l = some rest ∧ ∃ e a' w', Q e a' w' ∧ Arrives P (lone (b.at a (.code rest :: .inScope c :: k)) cs w) b k cs e a' w' := by
    intro n
    induction n using Nat.strongRecOn with
    | _ n ih =>
      intro l a w hn hJ
      obtain ⟨rest, hf, hp⟩ := pass l a w hJ
      refine ⟨rest, hf, ?_⟩
      obtain ⟨e, a₁, w₁, hq, harr⟩ := hp b (.inScope c :: k) cs
      cases e with
      | normal => exact ⟨.normal, a₁, w₁, hq, Steps.trans harr (.one step_inScope)⟩
      | exit id => exact ⟨.exit id, a₁, w₁, hq, fun k' hk => harr k' (by simp [exitTo, hk])⟩
      | goto l' =>
        obtain ⟨hJ', hlt⟩ := hq
        obtain ⟨rest', hf', e₂, a₂, w₂, hq₂, harr₂⟩ := ih _ (by omega) l' a₁ w₁ rfl hJ'
        have hg : gotoIn l' (.inScope c :: k) = some (.code rest' :: .inScope c :: k) := by simp [gotoIn, hf']
        exact ⟨e₂, a₂, w₂, hq₂, .of_steps (harr _ hg) harr₂⟩
      | ret => exact ⟨_, a₁, w₁, hq, harr⟩
      | panic ch => exact ⟨_, a₁, w₁, hq, harr⟩
      | outgrown => exact ⟨_, a₁, w₁, hq, harr⟩
  obtain ⟨e, a₁, w₁, hq, harr⟩ := first b (.inScope c :: k) cs
  cases e with
  | normal => exact ⟨.normal, a₁, w₁, hq, .head step_scope (Steps.trans harr (.one step_inScope))⟩
  | exit id => exact ⟨.exit id, a₁, w₁, hq, fun k' hk => .head step_scope (harr k' (by simp [exitTo, hk]))⟩
  | goto l' =>
    obtain ⟨rest', hf', e₂, a₂, w₂, hq₂, harr₂⟩ := key _ l' a₁ w₁ rfl hq
    have hg : gotoIn l' (.inScope c :: k) = some (.code rest' :: .inScope c :: k) := by simp [gotoIn, hf']
    exact ⟨e₂, a₂, w₂, hq₂, .of_steps (.head step_scope (harr _ hg)) harr₂⟩
  | ret => exact ⟨_, a₁, w₁, hq, .of_steps (.one step_scope) harr⟩
  | panic ch => exact ⟨_, a₁, w₁, hq, .of_steps (.one step_scope) harr⟩
  | outgrown => exact ⟨_, a₁, w₁, hq, .of_steps (.one step_scope) harr⟩

/-- Three labels, met in the text in the order 0, 2, 1. -/
theorem wp_scope_three {P : Program} {a : Act} {w : World} {Q : Exit → Act → World → Prop} {c r0 r1 r2 : Code} (J : Nat → Act → World → Prop) (μ : Nat → Act → World → Nat)
    (h0 : findLabel c 0 = some (Code.skip.seq r0)) (h1 : findLabel c 1 = some (Code.skip.seq r1)) (h2 : findLabel c 2 = some (Code.skip.seq r2)) (hJ : ∀ l a w, J l a w → l < 3)
    (pass1 : ∀ a w, J 1 a w → r1.wp P (jumps (fun l a' w' => J l a' w' ∧ μ l a' w' < μ 1 a w) Q) a w)
    (pass2 : (∀ n a w, J 1 a w → μ 1 a w ≤ n → r1.wp P (jumps (fun l a' w' => J l a' w' ∧ μ l a' w' < n) Q) a w) → ∀ a w, J 2 a w → r2.wp P (jumps (fun l a' w' => J l a' w' ∧ μ l a' w' < μ 2 a w) Q) a w)
    (pass0 : (∀ n a w, J 2 a w → μ 2 a w ≤ n → r2.wp P (jumps (fun l a' w' => J l a' w' ∧ μ l a' w' < n) Q) a w) → ∀ a w, J 0 a w → r0.wp P (jumps (fun l a' w' => J l a' w' ∧ μ l a' w' < μ 0 a w) Q) a w)
    (first : (∀ a w, J 0 a w → r0.wp P (jumps J Q) a w) → c.wp P (jumps J Q) a w) : (Code.scope c).wp P Q a w := by
  have q1 := pass1
  have q2 := pass2 (fun n a w h hn => jumps_mono (fun l a' w' h' => ⟨h'.1, Nat.lt_of_lt_of_le h'.2 hn⟩) (pass1 a w h))
  have q0 := pass0 (fun n a w h hn => jumps_mono (fun l a' w' h' => ⟨h'.1, Nat.lt_of_lt_of_le h'.2 hn⟩) (q2 a w h))
  refine wp_scope_labels J μ (first fun a w h => jumps_mono (fun l a' w' h' => h'.1) (q0 a w h)) fun l a w h => ?_
  have hl := hJ l a w h
  match l, hl, h with
  | 0, _, h => exact ⟨_, h0, wp_seq (wp_skip (q0 a w h))⟩
  | 1, _, h => exact ⟨_, h1, wp_seq (wp_skip (q1 a w h))⟩
  | 2, _, h => exact ⟨_, h2, wp_seq (wp_skip (q2 a w h))⟩

def stdB (s : ByteArray) (k : Nat) (lo hi : Int) : Bool := decide (k < s.size) && decide (lo ≤ byteAt s k) && decide (byteAt s k ≤ hi)
def lo2 (c : Int) : Int := if c = 224 then 160 else if c = 240 then 144 else 128
def hi2 (c : Int) : Int := if c = 237 then 159 else if c = 244 then 143 else 191
def V1 (s : ByteArray) (k : Nat) (lo hi : Int) : Bool := stdB s k lo hi && vfrom s (k + 1)
def V2 (s : ByteArray) (k : Nat) (lo hi : Int) : Bool := stdB s k lo hi && V1 s (k + 1) 128 191
def V3 (s : ByteArray) (k : Nat) (lo hi : Int) : Bool := stdB s k lo hi && V2 s (k + 1) 128 191
theorem stdB_iff (s : ByteArray) (k : Nat) (lo hi : Int) : stdB s k lo hi = true ↔ k < s.size ∧ lo ≤ byteAt s k ∧ byteAt s k ≤ hi := by
  unfold stdB
  simp only [Bool.and_eq_true, decide_eq_true_eq, and_assoc]
theorem vfrom_eq (s : ByteArray) (k : Nat) (hk : k < s.size) : vfrom s k = if 0 < charR s k then vfrom s (k + (charR s k).toNat) else false := by
  rw [vfrom]
  by_cases hc : 0 < charR s k
  · rw [dif_pos ⟨hk, hc⟩, if_pos hc]
  · rw [dif_neg (fun x => hc x.2), if_neg hc]
    exact decide_eq_false (by omega)
theorem fin_iff (n least v : Int) : fin n least v = if least ≤ v ∧ v ≤ 1114111 ∧ ¬ (55296 ≤ v ∧ v ≤ 57343) then n else 0 := by
  unfold fin
  by_cases h : v < least ∨ 1114111 < v ∨ 55296 ≤ v ∧ v ≤ 57343
  · rw [if_pos h, if_neg (by omega)]
  · rw [if_neg h, if_pos (by omega)]
theorem multi2 (s : ByteArray) (p : Nat) (v : Int) : multi s p 2 128 v = if p + 1 < s.size ∧ byteAt s (p + 1) / 64 = 2 ∧ 128 ≤ v * 64 + byteAt s (p + 1) % 64 ∧ v * 64 + byteAt s (p + 1) % 64 ≤ 1114111 ∧ ¬ (55296 ≤ v * 64 + byteAt s (p + 1) % 64 ∧ v * 64 + byteAt s (p + 1) % 64 ≤ 57343) then 2 else 0 := by
  unfold multi
  by_cases h : s.size < p + 2
  · rw [if_pos h, if_neg (by omega)]
  · rw [if_neg h]
    show fini _ 128 (cont s p 1 1 v) = _
    rw [cont]
    by_cases h1 : byteAt s (p + 1) / 64 = 2
    · rw [if_pos h1, cont]
      show fin _ _ _ = _
      rw [fin_iff]
      generalize v * 64 + byteAt s (p + 1) % 64 = X
      by_cases h2 : 128 ≤ X ∧ X ≤ 1114111 ∧ ¬ (55296 ≤ X ∧ X ≤ 57343)
      · rw [if_pos h2, if_pos ⟨by omega, h1, h2⟩]; rfl
      · rw [if_neg h2, if_neg (fun x => h2 x.2.2)]
    · rw [if_neg h1, if_neg (fun x => h1 x.2.1)]; rfl
theorem multi3 (s : ByteArray) (p : Nat) (v : Int) : multi s p 3 2048 v = if p + 2 < s.size ∧ byteAt s (p + 1) / 64 = 2 ∧ byteAt s (p + 2) / 64 = 2 ∧ 2048 ≤ (v * 64 + byteAt s (p + 1) % 64) * 64 + byteAt s (p + 2) % 64 ∧ (v * 64 + byteAt s (p + 1) % 64) * 64 + byteAt s (p + 2) % 64 ≤ 1114111 ∧ ¬ (55296 ≤ (v * 64 + byteAt s (p + 1) % 64) * 64 + byteAt s (p + 2) % 64 ∧ (v * 64 + byteAt s (p + 1) % 64) * 64 + byteAt s (p + 2) % 64 ≤ 57343) then 3 else 0 := by
  unfold multi
  by_cases h : s.size < p + 3
  · rw [if_pos h, if_neg (by omega)]
  · rw [if_neg h]
    show fini _ 2048 (cont s p 2 1 v) = _
    rw [cont]
    by_cases h1 : byteAt s (p + 1) / 64 = 2
    · rw [if_pos h1, cont]
      by_cases h3 : byteAt s (p + 2) / 64 = 2
      · rw [if_pos h3, cont]
        show fin _ _ _ = _
        rw [fin_iff]
        generalize (v * 64 + byteAt s (p + 1) % 64) * 64 + byteAt s (p + 2) % 64 = X
        by_cases h2 : 2048 ≤ X ∧ X ≤ 1114111 ∧ ¬ (55296 ≤ X ∧ X ≤ 57343)
        · rw [if_pos h2, if_pos ⟨by omega, h1, h3, h2⟩]; rfl
        · rw [if_neg h2, if_neg (fun x => h2 x.2.2.2)]
      · rw [if_neg h3, if_neg (fun x => h3 x.2.2.1)]; rfl
    · rw [if_neg h1, if_neg (fun x => h1 x.2.1)]; rfl
theorem multi4 (s : ByteArray) (p : Nat) (v : Int) : multi s p 4 65536 v = if p + 3 < s.size ∧ byteAt s (p + 1) / 64 = 2 ∧ byteAt s (p + 2) / 64 = 2 ∧ byteAt s (p + 3) / 64 = 2 ∧ 65536 ≤ ((v * 64 + byteAt s (p + 1) % 64) * 64 + byteAt s (p + 2) % 64) * 64 + byteAt s (p + 3) % 64 ∧ ((v * 64 + byteAt s (p + 1) % 64) * 64 + byteAt s (p + 2) % 64) * 64 + byteAt s (p + 3) % 64 ≤ 1114111 ∧ ¬ (55296 ≤ ((v * 64 + byteAt s (p + 1) % 64) * 64 + byteAt s (p + 2) % 64) * 64 + byteAt s (p + 3) % 64 ∧ ((v * 64 + byteAt s (p + 1) % 64) * 64 + byteAt s (p + 2) % 64) * 64 + byteAt s (p + 3) % 64 ≤ 57343) then 4 else 0 := by
  unfold multi
  by_cases h : s.size < p + 4
  · rw [if_pos h, if_neg (by omega)]
  · rw [if_neg h]
    show fini _ 65536 (cont s p 3 1 v) = _
    rw [cont]
    by_cases h1 : byteAt s (p + 1) / 64 = 2
    · rw [if_pos h1, cont]
      by_cases h3 : byteAt s (p + 2) / 64 = 2
      · rw [if_pos h3, cont]
        by_cases h4 : byteAt s (p + 3) / 64 = 2
        · rw [if_pos h4, cont]
          show fin _ _ _ = _
          rw [fin_iff]
          generalize ((v * 64 + byteAt s (p + 1) % 64) * 64 + byteAt s (p + 2) % 64) * 64 + byteAt s (p + 3) % 64 = X
          by_cases h2 : 65536 ≤ X ∧ X ≤ 1114111 ∧ ¬ (55296 ≤ X ∧ X ≤ 57343)
          · rw [if_pos h2, if_pos ⟨by omega, h1, h3, h4, h2⟩]; rfl
          · rw [if_neg h2, if_neg (fun x => h2 x.2.2.2.2)]
        · rw [if_neg h4, if_neg (fun x => h4 x.2.2.2.1)]; rfl
      · rw [if_neg h3, if_neg (fun x => h3 x.2.2.1)]; rfl
    · rw [if_neg h1, if_neg (fun x => h1 x.2.1)]; rfl

theorem vstep1 (s : ByteArray) (k : Nat) (hk : k < s.size) (hc : byteAt s k < 128) : vfrom s k = vfrom s (k + 1) := by
  rw [vfrom_eq s k hk]
  have e : charR s k = 1 := by unfold charR; rw [if_pos hc]
  rw [e, if_pos (by omega)]
  rfl
theorem vstep0 (s : ByteArray) (k : Nat) (hk : k < s.size) (hc : 128 ≤ byteAt s k) (h : byteAt s k < 194 ∨ 244 < byteAt s k) : vfrom s k = false := by
  rw [vfrom_eq s k hk]
  have hb := byteAt_bd s k
  have b1 := byteAt_bd s (k + 1)
  have b2 := byteAt_bd s (k + 2)
  have b3 := byteAt_bd s (k + 3)
  have e : charR s k = 0 := by
    unfold charR
    rw [multi2, multi3, multi4]
    generalize byteAt s k = c at *
    generalize byteAt s (k + 1) = d1 at *
    generalize byteAt s (k + 2) = d2 at *
    generalize byteAt s (k + 3) = d3 at *
    rw [if_neg (by omega)]
    split
    · rw [if_neg (by omega)]
    · rw [if_neg (by omega)]
      split
      · rw [if_neg (by omega)]
      · rfl
  rw [e]
  rfl
theorem vstep2 (s : ByteArray) (k : Nat) (hk : k < s.size) (hc : 194 ≤ byteAt s k ∧ byteAt s k < 224) : vfrom s k = V1 s (k + 1) 128 191 := by
  rw [vfrom_eq s k hk]
  have b1 := byteAt_bd s (k + 1)
  have hs := stdB_iff s (k + 1) 128 191
  have e : charR s k = if stdB s (k + 1) 128 191 = true then 2 else 0 := by
    unfold charR
    rw [multi2, if_neg (by omega), if_pos (by omega)]
    by_cases h : stdB s (k + 1) 128 191 = true
    · rw [if_pos h, if_pos (by have := hs.1 h; omega)]
    · rw [if_neg h, if_neg (fun x => h (hs.2 (by omega)))]
  rw [e]
  unfold V1
  cases stdB s (k + 1) 128 191 with
  | false => rfl
  | true => rfl
theorem lo2_eq (c : Int) : (c = 224 → lo2 c = 160) ∧ (c = 240 → lo2 c = 144) ∧ (c ≠ 224 → c ≠ 240 → lo2 c = 128) := by
  unfold lo2
  refine ⟨fun h => by rw [if_pos h], fun h => by rw [if_neg (by omega), if_pos h], fun h h' => by rw [if_neg h, if_neg h']⟩
theorem hi2_eq (c : Int) : (c = 237 → hi2 c = 159) ∧ (c = 244 → hi2 c = 143) ∧ (c ≠ 237 → c ≠ 244 → hi2 c = 191) := by
  unfold hi2
  refine ⟨fun h => by rw [if_pos h], fun h => by rw [if_neg (by omega), if_pos h], fun h h' => by rw [if_neg h, if_neg h']⟩
theorem vstep3 (s : ByteArray) (k : Nat) (hk : k < s.size) (hc : 224 ≤ byteAt s k ∧ byteAt s k < 240) : vfrom s k = V2 s (k + 1) (lo2 (byteAt s k)) (hi2 (byteAt s k)) := by
  rw [vfrom_eq s k hk]
  have b1 := byteAt_bd s (k + 1)
  have b2 := byteAt_bd s (k + 2)
  have hlo := lo2_eq (byteAt s k)
  have hhi := hi2_eq (byteAt s k)
  have hs := stdB_iff s (k + 1) (lo2 (byteAt s k)) (hi2 (byteAt s k))
  have hs2 : stdB s (k + 1 + 1) 128 191 = true ↔ k + 2 < s.size ∧ 128 ≤ byteAt s (k + 2) ∧ byteAt s (k + 2) ≤ 191 := stdB_iff s (k + 2) 128 191
  have e : charR s k = if stdB s (k + 1) (lo2 (byteAt s k)) (hi2 (byteAt s k)) = true ∧ stdB s (k + 1 + 1) 128 191 = true then 3 else 0 := by
    unfold charR
    rw [multi3, if_neg (by omega), if_neg (by omega), if_pos (by omega)]
    generalize stdB s (k + 1) (lo2 (byteAt s k)) (hi2 (byteAt s k)) = x1 at *
    generalize stdB s (k + 1 + 1) 128 191 = x2 at *
    generalize lo2 (byteAt s k) = lo at *
    generalize hi2 (byteAt s k) = hi at *
    generalize byteAt s k = c at *
    generalize byteAt s (k + 1) = d1 at *
    generalize byteAt s (k + 2) = d2 at *
    by_cases h : k + 2 < s.size ∧ d1 / 64 = 2 ∧ d2 / 64 = 2 ∧ 2048 ≤ (c % 16 * 64 + d1 % 64) * 64 + d2 % 64 ∧ (c % 16 * 64 + d1 % 64) * 64 + d2 % 64 ≤ 1114111 ∧ ¬ (55296 ≤ (c % 16 * 64 + d1 % 64) * 64 + d2 % 64 ∧ (c % 16 * 64 + d1 % 64) * 64 + d2 % 64 ≤ 57343)
    · rw [if_pos h, if_pos ⟨hs.2 (by clear hs hs2; omega), hs2.2 (by clear hs hs2; omega)⟩]
    · rw [if_neg h, if_neg (fun x => h (by have y1 := hs.1 x.1; have y2 := hs2.1 x.2; clear hs hs2 x h; omega))]
  rw [e]
  unfold V2 V1
  generalize stdB s (k + 1) (lo2 (byteAt s k)) (hi2 (byteAt s k)) = x1
  generalize stdB s (k + 1 + 1) 128 191 = x2
  cases x1 <;> cases x2 <;> rfl
theorem vstep4 (s : ByteArray) (k : Nat) (hk : k < s.size) (hc : 240 ≤ byteAt s k ∧ byteAt s k ≤ 244) : vfrom s k = V3 s (k + 1) (lo2 (byteAt s k)) (hi2 (byteAt s k)) := by
  rw [vfrom_eq s k hk]
  have b1 := byteAt_bd s (k + 1)
  have b2 := byteAt_bd s (k + 2)
  have b3 := byteAt_bd s (k + 3)
  have hlo := lo2_eq (byteAt s k)
  have hhi := hi2_eq (byteAt s k)
  have hs := stdB_iff s (k + 1) (lo2 (byteAt s k)) (hi2 (byteAt s k))
  have hs2 : stdB s (k + 1 + 1) 128 191 = true ↔ k + 2 < s.size ∧ 128 ≤ byteAt s (k + 2) ∧ byteAt s (k + 2) ≤ 191 := stdB_iff s (k + 2) 128 191
  have hs3 : stdB s (k + 1 + 1 + 1) 128 191 = true ↔ k + 3 < s.size ∧ 128 ≤ byteAt s (k + 3) ∧ byteAt s (k + 3) ≤ 191 := stdB_iff s (k + 3) 128 191
  have e : charR s k = if stdB s (k + 1) (lo2 (byteAt s k)) (hi2 (byteAt s k)) = true ∧ stdB s (k + 1 + 1) 128 191 = true ∧ stdB s (k + 1 + 1 + 1) 128 191 = true then 4 else 0 := by
    unfold charR
    rw [multi4, if_neg (by omega), if_neg (by omega), if_neg (by omega), if_pos (by omega)]
    generalize stdB s (k + 1) (lo2 (byteAt s k)) (hi2 (byteAt s k)) = x1 at *
    generalize stdB s (k + 1 + 1) 128 191 = x2 at *
    generalize stdB s (k + 1 + 1 + 1) 128 191 = x3 at *
    generalize lo2 (byteAt s k) = lo at *
    generalize hi2 (byteAt s k) = hi at *
    generalize byteAt s k = c at *
    generalize byteAt s (k + 1) = d1 at *
    generalize byteAt s (k + 2) = d2 at *
    generalize byteAt s (k + 3) = d3 at *
    by_cases h : k + 3 < s.size ∧ d1 / 64 = 2 ∧ d2 / 64 = 2 ∧ d3 / 64 = 2 ∧ 65536 ≤ ((c % 8 * 64 + d1 % 64) * 64 + d2 % 64) * 64 + d3 % 64 ∧ ((c % 8 * 64 + d1 % 64) * 64 + d2 % 64) * 64 + d3 % 64 ≤ 1114111 ∧ ¬ (55296 ≤ ((c % 8 * 64 + d1 % 64) * 64 + d2 % 64) * 64 + d3 % 64 ∧ ((c % 8 * 64 + d1 % 64) * 64 + d2 % 64) * 64 + d3 % 64 ≤ 57343)
    · rw [if_pos h, if_pos ⟨hs.2 (by clear hs hs2 hs3; omega), hs2.2 (by clear hs hs2 hs3; omega), hs3.2 (by clear hs hs2 hs3; omega)⟩]
    · rw [if_neg h, if_neg (fun x => h (by have y1 := hs.1 x.1; have y2 := hs2.1 x.2.1; have y3 := hs3.1 x.2.2; clear hs hs2 hs3 x h; omega))]
  rw [e]
  unfold V3 V2 V1
  generalize stdB s (k + 1) (lo2 (byteAt s k)) (hi2 (byteAt s k)) = x1
  generalize stdB s (k + 1 + 1) 128 191 = x2
  generalize stdB s (k + 1 + 1 + 1) 128 191 = x3
  cases x1 <;> cases x2 <;> cases x3 <;> rfl
end Go.Proofs.YtpabbmiibehfjaaGreatDoor

/- The program's own isUTF8, isValue. -/
namespace Go.Proofs.YtpabbmiibehfjaaGreatDoor
set_option maxRecDepth 20000
open Go.RowKit
set_option linter.unusedVariables false

theorem g_second (c : Int) (w : World) : Calls Tryz.prog 116 #[.int .u8 c] w fun e w' => e = .returned (.tuple #[.int .u8 (lo2 c), .int .u8 (hi2 c)]) ∧ w = w' := by
  have hlo := lo2_eq c
  have hhi := hi2_eq c
  by_cases h1 : c = 224
  · rw [hlo.1 h1, hhi.2.2 (by omega) (by omega)]
    subst h1
    clear hlo hhi
    go_enter Tryz.func116, Tryz.ntmps116
    go_wp2
    go_ret2
    exact ⟨rfl, rfl⟩
  · have q1 : (c == 224) = false := by simpa using h1
    by_cases h2 : c = 237
    · rw [hlo.2.2 (by omega) (by omega), hhi.1 h2]
      subst h2
      clear hlo hhi q1 h1
      go_enter Tryz.func116, Tryz.ntmps116
      go_wp2
      go_ret2
      exact ⟨rfl, rfl⟩
    · have q2 : (c == 237) = false := by simpa using h2
      by_cases h3 : c = 240
      · rw [hlo.2.1 h3, hhi.2.2 (by omega) (by omega)]
        subst h3
        clear hlo hhi q1 q2 h1 h2
        go_enter Tryz.func116, Tryz.ntmps116
        go_wp2
        go_ret2
        exact ⟨rfl, rfl⟩
      · have q3 : (c == 240) = false := by simpa using h3
        by_cases h4 : c = 244
        · rw [hlo.2.2 (by omega) (by omega), hhi.2.1 h4]
          subst h4
          clear hlo hhi q1 q2 q3 h1 h2 h3
          go_enter Tryz.func116, Tryz.ntmps116
          go_wp2
          go_ret2
          exact ⟨rfl, rfl⟩
        · have q4 : (c == 244) = false := by simpa using h4
          rw [hlo.2.2 (by omega) (by omega), hhi.2.2 (by omega) (by omega)]
          clear hlo hhi h1 h2 h3 h4
          go_enter Tryz.func116, Tryz.ntmps116
          go_wp2
          go_ret2
          exact ⟨rfl, rfl⟩
theorem g_stands (s : ByteArray) (k : Nat) (lo hi : Int) (w : World) : Calls Tryz.prog 117 #[.string s, .int .i64 k, .int .u8 lo, .int .u8 hi] w fun e w' => e = .returned (.bool (stdB s k lo hi)) ∧ w = w' := by
  unfold stdB
  by_cases h1 : k < s.size
  · have hidx := idx9 s k h1
    have q1 : decide ((k : Int) < (s.size : Int)) = true := by simp; omega
    rw [decide_eq_true h1]
    generalize byteAt s k = c at hidx ⊢
    by_cases h2 : lo ≤ c
    · have q2 : decide (lo ≤ c) = true := by simpa using h2
      by_cases h3 : c ≤ hi
      · have q3 : decide (c ≤ hi) = true := by simpa using h3
        rw [q2, q3]
        clear h2 h3
        go_enter Tryz.func117, Tryz.ntmps117
        go_wp2
        go_ret
        exact ⟨rfl, rfl⟩
      · have q3 : decide (c ≤ hi) = false := by simpa using h3
        rw [q2, q3]
        clear h2 h3
        go_enter Tryz.func117, Tryz.ntmps117
        go_wp2
        go_ret
        exact ⟨rfl, rfl⟩
    · have q2 : decide (lo ≤ c) = false := by simpa using h2
      rw [q2]
      clear h2
      go_enter Tryz.func117, Tryz.ntmps117
      go_wp2
      go_ret
      exact ⟨rfl, rfl⟩
  · have q1 : decide ((k : Int) < (s.size : Int)) = false := by simp; omega
    rw [decide_eq_false h1]
    go_enter Tryz.func117, Tryz.ntmps117
    go_wp2
    go_ret
    exact ⟨rfl, rfl⟩

/-- The machine's frame. -/
def Fr (s : ByteArray) (x3 x4 x5 x6 : Value) (a : Act) : Prop := ∃ (u7 u8 u9 u10 u11 u12 u13 u14 u15 u16 u17 u18 u19 u20 u21 u22 u23 u24 u25 u26 u27 u28 u29 u30 u31 u32 u33 u34 u35 u36 u37 u38 u39 u40 u41 u42 u43 u44 u45 u46 u47 u48 u49 u50 u51 u52 u53 u54 u55 u56 u57 u58 u59 u60 : Value), a = { tmps := #[.string s, undef, .bool false, x3, x4, x5, x6, u7, u8, u9, u10, u11, u12, u13, u14, u15, u16, u17, u18, u19, u20, u21, u22, u23, u24, u25, u26, u27, u28, u29, u30, u31, u32, u33, u34, u35, u36, u37, u38, u39, u40, u41, u42, u43, u44, u45, u46, u47, u48, u49, u50, u51, u52, u53, u54, u55, u56, u57, u58, u59, u60], defers := [] }
def UJ (s : ByteArray) (R : Bool) (w0 : World) : Nat → Act → World → Prop
  | 0, a, w => w0 = w ∧ ∃ (k : Nat) (x3 x4 x5 : Value), Fr s x3 x4 x5 (.int .i64 k) a ∧ k ≤ s.size ∧ vfrom s k = R
  | 1, a, w => w0 = w ∧ ∃ (k : Nat) (x3 : Value) (lo hi : Int), Fr s x3 (.int .u8 lo) (.int .u8 hi) (.int .i64 k) a ∧ k ≤ s.size ∧ V1 s k lo hi = R
  | 2, a, w => w0 = w ∧ ∃ (k : Nat) (x3 : Value) (lo hi : Int), Fr s x3 (.int .u8 lo) (.int .u8 hi) (.int .i64 k) a ∧ k ≤ s.size ∧ V2 s k lo hi = R
  | _, _, _ => False
def Um (s : ByteArray) (l : Nat) (a : Act) (_ : World) : Nat := 4 * (s.size + 1 - (intOf (a.tmps.getD 6 undef)).toNat) + l

set_option maxHeartbeats 2000000 in
theorem g_utf (s : ByteArray) (R : Bool) (w : World) (hs : s.size ≤ 1000000000) (hR : vfrom s 0 = R) : Calls Tryz.prog 104 #[.string s] w fun e w' => e = .returned (.bool R) ∧ w = w' := by
  have H0 : Hid (vfrom s 0 = R) := hR
  clear hR
  go_enter Tryz.func104, Tryz.ntmps104
  go_wp2
  refine wp_scope_three (UJ s R w) (Um s) rfl rfl rfl ?_ ?_ ?_ ?_ ?_
  · intro l a w' h
    match l, h with
    | 0, _ => decide
    | 1, _ => decide
    | 2, _ => decide
    | n + 3, h => exact h.elim
  · rintro a' w' ⟨rfl, k, x3, lo, hi, ⟨u7, u8, u9, u10, u11, u12, u13, u14, u15, u16, u17, u18, u19, u20, u21, u22, u23, u24, u25, u26, u27, u28, u29, u30, u31, u32, u33, u34, u35, u36, u37, u38, u39, u40, u41, u42, u43, u44, u45, u46, u47, u48, u49, u50, u51, u52, u53, u54, u55, u56, u57, u58, u59, u60, rfl⟩, hk, hv⟩
    have HV : Hid (V1 s k lo hi = R) := hv
    have HC : Hid (∀ w, Calls Tryz.prog 117 #[.string s, .int .i64 k, .int .u8 lo, .int .u8 hi] w fun e w' => e = .returned (.bool (stdB s k lo hi)) ∧ w = w') := g_stands s k lo hi
    have HI := stdB_iff s k lo hi
    clear hv H0
    unfold V1 at HV
    generalize stdB s k lo hi = b at HC HV HI
    cases b with
    | false =>
      have HS : Hid (false = R) := HV.out
      clear HV HI
      go_wp2_with (go_at_call 117; refine (HC.out _).mono ?_; rintro e w1 ⟨rfl, rfl⟩)
      simp only [jumps]
      go_ret
      exact ⟨ret_bool HS.out, rfl⟩
    | true =>
      have HS : Hid (vfrom s (k + 1) = R) := HV.out
      have hlt : k < s.size := (HI.1 rfl).1
      clear HV HI
      go_wp2_with (go_at_call 117; refine (HC.out _).mono ?_; rintro e w1 ⟨rfl, rfl⟩)
      go_step3
      exact ⟨⟨rfl, k + 1, _, _, _, ⟨_, _, _, _, _, _, _, _, _, _, _, _, _, _, _, _, _, _, _, _, _, _, _, _, _, _, _, _, _, _, _, _, _, _, _, _, _, _, _, _, _, _, _, _, _, _, _, _, _, _, _, _, _, _, rfl⟩, by omega, HS.out⟩, by simp [Um, intOf]; omega⟩
  · rintro on1 a' w' ⟨rfl, k, x3, lo, hi, ⟨u7, u8, u9, u10, u11, u12, u13, u14, u15, u16, u17, u18, u19, u20, u21, u22, u23, u24, u25, u26, u27, u28, u29, u30, u31, u32, u33, u34, u35, u36, u37, u38, u39, u40, u41, u42, u43, u44, u45, u46, u47, u48, u49, u50, u51, u52, u53, u54, u55, u56, u57, u58, u59, u60, rfl⟩, hk, hv⟩
    have HV : Hid (V2 s k lo hi = R) := hv
    have HC : Hid (∀ w, Calls Tryz.prog 117 #[.string s, .int .i64 k, .int .u8 lo, .int .u8 hi] w fun e w' => e = .returned (.bool (stdB s k lo hi)) ∧ w = w') := g_stands s k lo hi
    have HI := stdB_iff s k lo hi
    clear hv H0
    unfold V2 at HV
    generalize stdB s k lo hi = b at HC HV HI
    cases b with
    | false =>
      have HS : Hid (false = R) := HV.out
      clear HV HI
      go_wp2_with (go_at_call 117; refine (HC.out _).mono ?_; rintro e w1 ⟨rfl, rfl⟩)
      simp only [jumps]
      go_ret
      exact ⟨ret_bool HS.out, rfl⟩
    | true =>
      have HS : Hid (V1 s (k + 1) 128 191 = R) := HV.out
      have hlt : k < s.size := (HI.1 rfl).1
      clear HV HI
      go_wp2_with (go_at_call 117; refine (HC.out _).mono ?_; rintro e w1 ⟨rfl, rfl⟩)
      go_step3
      refine ‹∀ (a : Act) (w : World), Code.wp Tryz.prog _ _ a w → _› _ _ (on1 _ _ _ ⟨rfl, k + 1, _, _, _, ⟨_, _, _, _, _, _, _, _, _, _, _, _, _, _, _, _, _, _, _, _, _, _, _, _, _, _, _, _, _, _, _, _, _, _, _, _, _, _, _, _, _, _, _, _, _, _, _, _, _, _, _, _, _, _, rfl⟩, by omega, HS.out⟩ ?_)
      simp [Um, intOf]
      omega
  · rintro on2 a' w' ⟨rfl, k, x3, x4, x5, ⟨u7, u8, u9, u10, u11, u12, u13, u14, u15, u16, u17, u18, u19, u20, u21, u22, u23, u24, u25, u26, u27, u28, u29, u30, u31, u32, u33, u34, u35, u36, u37, u38, u39, u40, u41, u42, u43, u44, u45, u46, u47, u48, u49, u50, u51, u52, u53, u54, u55, u56, u57, u58, u59, u60, rfl⟩, hk, hv⟩
    have HV : Hid (vfrom s k = R) := hv
    clear hv H0
    by_cases hlt : k < s.size
    · have q0 : ((k : Int) == (s.size : Int)) = false := by simp; omega
      have hidx := idx9 s k hlt
      have hb := byteAt_bd s k
      have HC : Hid (∀ w, Calls Tryz.prog 116 #[.int .u8 (byteAt s k)] w fun e w' => e = .returned (.tuple #[.int .u8 (lo2 (byteAt s k)), .int .u8 (hi2 (byteAt s k))]) ∧ w = w') := g_second (byteAt s k)
      have HN1 : Hid (byteAt s k < 128 → vfrom s (k + 1) = R) := fun h => (vstep1 s k hlt h).symm.trans HV.out
      have HN0 : Hid (128 ≤ byteAt s k → byteAt s k < 194 ∨ 244 < byteAt s k → false = R) := fun h h' => (vstep0 s k hlt h h').symm.trans HV.out
      have HN2 : Hid (194 ≤ byteAt s k ∧ byteAt s k < 224 → V1 s (k + 1) (lo2 (byteAt s k)) (hi2 (byteAt s k)) = R) := fun h => by
        rw [(lo2_eq (byteAt s k)).2.2 (by omega) (by omega), (hi2_eq (byteAt s k)).2.2 (by omega) (by omega)]
        exact (vstep2 s k hlt h).symm.trans HV.out
      have HN3 : Hid (224 ≤ byteAt s k ∧ byteAt s k < 240 → V2 s (k + 1) (lo2 (byteAt s k)) (hi2 (byteAt s k)) = R) := fun h => (vstep3 s k hlt h).symm.trans HV.out
      have HN4 : Hid (240 ≤ byteAt s k ∧ byteAt s k ≤ 244 → V3 s (k + 1) (lo2 (byteAt s k)) (hi2 (byteAt s k)) = R) := fun h => (vstep4 s k hlt h).symm.trans HV.out
      clear HV
      generalize lo2 (byteAt s k) = lo at HC HN2 HN3 HN4
      generalize hi2 (byteAt s k) = hi at HC HN2 HN3 HN4
      generalize byteAt s k = c at hidx hb HC HN0 HN1 HN2 HN3 HN4
      by_cases h1 : c < 128
      · have q1 : decide (c < 128) = true := by simpa using h1
        have HS : Hid (vfrom s (k + 1) = R) := HN1.out h1
        clear HN0 HN1 HN2 HN3 HN4 h1
        go_wp2_with (go_at_call 116; refine (HC.out _).mono ?_; rintro e w1 ⟨rfl, rfl⟩)
        go_step3
        exact ⟨⟨rfl, k + 1, _, _, _, ⟨_, _, _, _, _, _, _, _, _, _, _, _, _, _, _, _, _, _, _, _, _, _, _, _, _, _, _, _, _, _, _, _, _, _, _, _, _, _, _, _, _, _, _, _, _, _, _, _, _, _, _, _, _, _, rfl⟩, by omega, HS.out⟩, by simp [Um, intOf]; omega⟩
      · have q1 : decide (c < 128) = false := by simpa using h1
        by_cases h2 : c < 194
        · have q2 : decide (c < 194) = true := by simpa using h2
          have HS : Hid (false = R) := HN0.out (by omega) (.inl h2)
          clear HN0 HN1 HN2 HN3 HN4 h1 h2
          go_wp2_with (go_at_call 116; refine (HC.out _).mono ?_; rintro e w1 ⟨rfl, rfl⟩)
          simp only [jumps]
          go_ret
          exact ⟨ret_bool HS.out, rfl⟩
        · have q2 : decide (c < 194) = false := by simpa using h2
          by_cases h3 : 244 < c
          · have q3 : decide (244 < c) = true := by simpa using h3
            have HS : Hid (false = R) := HN0.out (by omega) (.inr h3)
            clear HN0 HN1 HN2 HN3 HN4 h1 h2 h3
            go_wp2_with (go_at_call 116; refine (HC.out _).mono ?_; rintro e w1 ⟨rfl, rfl⟩)
            simp only [jumps]
            go_ret
            exact ⟨ret_bool HS.out, rfl⟩
          · have q3 : decide (244 < c) = false := by simpa using h3
            by_cases h4 : c < 224
            · have q4 : decide (c < 224) = true := by simpa using h4
              have HS : Hid (V1 s (k + 1) lo hi = R) := HN2.out (by omega)
              clear HN0 HN1 HN2 HN3 HN4 h1 h2 h3 h4
              go_wp2_with (go_at_call 116; refine (HC.out _).mono ?_; rintro e w1 ⟨rfl, rfl⟩)
              go_step3
              exact ⟨⟨rfl, k + 1, _, _, _, ⟨_, _, _, _, _, _, _, _, _, _, _, _, _, _, _, _, _, _, _, _, _, _, _, _, _, _, _, _, _, _, _, _, _, _, _, _, _, _, _, _, _, _, _, _, _, _, _, _, _, _, _, _, _, _, rfl⟩, by omega, HS.out⟩, by simp [Um, intOf]; omega⟩
            · have q4 : decide (c < 224) = false := by simpa using h4
              by_cases h5 : c < 240
              · have q5 : decide (c < 240) = true := by simpa using h5
                have HS : Hid (V2 s (k + 1) lo hi = R) := HN3.out (by omega)
                clear HN0 HN1 HN2 HN3 HN4 h1 h2 h3 h4 h5
                go_wp2_with (go_at_call 116; refine (HC.out _).mono ?_; rintro e w1 ⟨rfl, rfl⟩)
                go_step3
                exact ⟨⟨rfl, k + 1, _, _, _, ⟨_, _, _, _, _, _, _, _, _, _, _, _, _, _, _, _, _, _, _, _, _, _, _, _, _, _, _, _, _, _, _, _, _, _, _, _, _, _, _, _, _, _, _, _, _, _, _, _, _, _, _, _, _, _, rfl⟩, by omega, HS.out⟩, by simp [Um, intOf]; omega⟩
              · have q5 : decide (c < 240) = false := by simpa using h5
                have HS : Hid (V3 s (k + 1) lo hi = R) := HN4.out (by omega)
                have HC2 : Hid (∀ w, Calls Tryz.prog 117 #[.string s, .int .i64 ((k : Int) + 1), .int .u8 lo, .int .u8 hi] w fun e w' => e = .returned (.bool (stdB s (k + 1) lo hi)) ∧ w = w') := g_stands s (k + 1) lo hi
                have HI := stdB_iff s (k + 1) lo hi
                clear HN0 HN1 HN2 HN3 HN4 h1 h2 h3 h4 h5
                unfold V3 at HS
                generalize stdB s (k + 1) lo hi = b at HC2 HS HI
                cases b with
                | false =>
                  have HF : Hid (false = R) := HS.out
                  clear HS HI
                  go_wp2_with (first | (go_at_call 116; refine (HC.out _).mono ?_; rintro e w1 ⟨rfl, rfl⟩) | (go_at_call 117; refine (HC2.out _).mono ?_; rintro e w1 ⟨rfl, rfl⟩))
                  simp only [jumps]
                  go_ret
                  exact ⟨ret_bool HF.out, rfl⟩
                | true =>
                  have HF : Hid (V2 s (k + 1 + 1) 128 191 = R) := HS.out
                  have hlt2 : k + 1 < s.size := (HI.1 rfl).1
                  clear HS HI
                  go_wp2_with (first | (go_at_call 116; refine (HC.out _).mono ?_; rintro e w1 ⟨rfl, rfl⟩) | (go_at_call 117; refine (HC2.out _).mono ?_; rintro e w1 ⟨rfl, rfl⟩))
                  go_step3
                  refine ‹∀ (a : Act) (w : World), Code.wp Tryz.prog _ _ a w → _› _ _ (on2 _ _ _ ⟨rfl, k + 1 + 1, _, _, _, ⟨_, _, _, _, _, _, _, _, _, _, _, _, _, _, _, _, _, _, _, _, _, _, _, _, _, _, _, _, _, _, _, _, _, _, _, _, _, _, _, _, _, _, _, _, _, _, _, _, _, _, _, _, _, _, rfl⟩, by omega, HF.out⟩ ?_)
                  simp [Um, intOf]
                  omega
    · have hke : k = s.size := by omega
      have HS : Hid (true = R) := by
        have h := HV.out
        rw [vfrom, dif_neg (by omega)] at h
        rw [← h]
        exact (decide_eq_true (by omega)).symm
      subst hke
      go_wp2
      simp only [jumps]
      go_ret
      exact ⟨ret_bool HS.out, rfl⟩
  · intro on0
    go_wp2
    go_step3
    refine ‹∀ (a : Act) (w : World), Code.wp Tryz.prog _ _ a w → _› _ _ (on0 _ _ ⟨rfl, 0, _, _, _, ⟨_, _, _, _, _, _, _, _, _, _, _, _, _, _, _, _, _, _, _, _, _, _, _, _, _, _, _, _, _, _, _, _, _, _, _, _, _, _, _, _, _, _, _, _, _, _, _, _, _, _, _, _, _, _, rfl⟩, by omega, H0.out⟩)

theorem g_value (s : ByteArray) (w : World) : Calls Tryz.prog 87 #[.string s] w fun e w' => e = .returned (.bool (validR s)) ∧ w = w' := by
  unfold validR
  by_cases h1 : 0 < s.size
  · rw [decide_eq_true h1]
    have q1 : decide ((1 : Int) ≤ (s.size : Int)) = true := by simp; omega
    by_cases h2 : s.size ≤ 256
    · rw [decide_eq_true h2]
      have q2 : decide ((s.size : Int) ≤ 256) = true := by simp; omega
      have HC : Hid (∀ w, Calls Tryz.prog 104 #[.string s] w fun e w' => e = .returned (.bool (vfrom s 0)) ∧ w = w') := fun w => g_utf s _ w (by omega) rfl
      generalize vfrom s 0 = R at HC ⊢
      go_enter Tryz.func87, Tryz.ntmps87
      go_wp2_with (go_at_call 104; refine (HC.out _).mono ?_; rintro e w1 ⟨rfl, rfl⟩)
      go_ret
      exact ⟨rfl, rfl⟩
    · rw [decide_eq_false h2]
      have q2 : decide ((s.size : Int) ≤ 256) = false := by simp; omega
      go_enter Tryz.func87, Tryz.ntmps87
      go_wp2
      go_ret
      exact ⟨rfl, rfl⟩
  · rw [decide_eq_false h1]
    have q1 : decide ((1 : Int) ≤ (s.size : Int)) = false := by simp; omega
    go_enter Tryz.func87, Tryz.ntmps87
    go_wp2
    go_ret
    exact ⟨rfl, rfl⟩
end Go.Proofs.YtpabbmiibehfjaaGreatDoor

/- The program's own isDigit, isLetter, isName. -/
namespace Go.Proofs.YtpabbmiibehfjaaGreatDoor
set_option maxRecDepth 20000
open Go.RowKit
set_option linter.unusedVariables false

def digB (c : Int) : Bool := decide (48 ≤ c) && decide (c ≤ 57)
def letB (c : Int) : Bool := decide (97 ≤ c) && decide (c ≤ 122) || decide (65 ≤ c) && decide (c ≤ 90) || decide (c = 95)
theorem nameB_eq (c : Int) : nameB c = (letB c || digB c) := by
  rw [Bool.eq_iff_iff]
  unfold nameB letB digB
  simp only [Bool.or_eq_true, Bool.and_eq_true, decide_eq_true_eq]
  omega
theorem g_digit (c : Int) (R : Bool) (w : World) (hR : digB c = R) : Calls Tryz.prog 102 #[.int .u8 c] w fun e w' => e = .returned (.bool R) ∧ w = w' := by
  subst hR
  unfold digB
  by_cases h1 : 48 ≤ c
  · have q1 : decide (48 ≤ c) = true := by simpa using h1
    by_cases h2 : c ≤ 57
    · have q2 : decide (c ≤ 57) = true := by simpa using h2
      rw [q1, q2]
      clear h1 h2
      go_enter Tryz.func102, Tryz.ntmps102
      go_wp2
      go_ret
      exact ⟨rfl, rfl⟩
    · have q2 : decide (c ≤ 57) = false := by simpa using h2
      rw [q1, q2]
      clear h1 h2
      go_enter Tryz.func102, Tryz.ntmps102
      go_wp2
      go_ret
      exact ⟨rfl, rfl⟩
  · have q1 : decide (48 ≤ c) = false := by simpa using h1
    rw [q1, Bool.false_and]
    clear h1
    go_enter Tryz.func102, Tryz.ntmps102
    go_wp2
    go_ret
    exact ⟨rfl, rfl⟩
theorem g_letter (c : Int) (R : Bool) (w : World) (hR : letB c = R) : Calls Tryz.prog 103 #[.int .u8 c] w fun e w' => e = .returned (.bool R) ∧ w = w' := by
  have hl : letB c = true ↔ (97 ≤ c ∧ c ≤ 122 ∨ 65 ≤ c ∧ c ≤ 90) ∨ c = 95 := by
    unfold letB
    simp only [Bool.or_eq_true, Bool.and_eq_true, decide_eq_true_eq]
  rw [hR] at hl
  clear hR
  by_cases h1 : 97 ≤ c
  · have q1 : decide (97 ≤ c) = true := by simpa using h1
    have q3 : decide (65 ≤ c) = true := by simp; omega
    have q4 : decide (c ≤ 90) = false := by simp; omega
    have q5 : (c == 95) = false := by simp; omega
    by_cases h2 : c ≤ 122
    · have q2 : decide (c ≤ 122) = true := by simpa using h2
      have hr : R = true := by rw [hl]; omega
      subst hr
      clear h1 h2 hl
      go_enter Tryz.func103, Tryz.ntmps103
      go_wp2
      go_ret
      exact ⟨rfl, rfl⟩
    · have q2 : decide (c ≤ 122) = false := by simpa using h2
      have hr : R = false := by cases R with | false => rfl | true => simp at hl; omega
      subst hr
      clear h1 h2 hl
      go_enter Tryz.func103, Tryz.ntmps103
      go_wp2
      go_ret
      exact ⟨rfl, rfl⟩
  · have q1 : decide (97 ≤ c) = false := by simpa using h1
    by_cases h3 : 65 ≤ c
    · have q3 : decide (65 ≤ c) = true := by simpa using h3
      by_cases h4 : c ≤ 90
      · have q4 : decide (c ≤ 90) = true := by simpa using h4
        have hr : R = true := by rw [hl]; omega
        subst hr
        clear h1 h3 h4 hl
        go_enter Tryz.func103, Tryz.ntmps103
        go_wp2
        go_ret
        exact ⟨rfl, rfl⟩
      · have q4 : decide (c ≤ 90) = false := by simpa using h4
        by_cases h5 : c = 95
        · have hr : R = true := by rw [hl]; omega
          subst hr h5
          clear h1 h3 h4 hl q1 q3 q4
          go_enter Tryz.func103, Tryz.ntmps103
          go_wp2
          go_ret
          exact ⟨rfl, rfl⟩
        · have q5 : (c == 95) = false := by simpa using h5
          have hr : R = false := by cases R with | false => rfl | true => simp at hl; omega
          subst hr
          clear h1 h3 h4 h5 hl
          go_enter Tryz.func103, Tryz.ntmps103
          go_wp2
          go_ret
          exact ⟨rfl, rfl⟩
    · have q3 : decide (65 ≤ c) = false := by simpa using h3
      have q5 : (c == 95) = false := by simp; omega
      have hr : R = false := by cases R with | false => rfl | true => simp at hl; omega
      subst hr
      clear h1 h3 hl
      go_enter Tryz.func103, Tryz.ntmps103
      go_wp2
      go_ret
      exact ⟨rfl, rfl⟩

set_option maxHeartbeats 1000000 in
theorem gname_loop (s : ByteArray) (R : Bool) (w : World) (h1 : 1 ≤ s.size) (h2 : s.size ≤ 64) (hd : digB (byteAt s 0) = false) (hR : (sInts s).all nameB = R) :
    Calls Tryz.prog 86 #[.string s] w fun e w' => e = .returned (.bool R) ∧ w = w' := by
  have H0 : Hid (NameAt s 0 R) := hR
  clear hR
  have q1 : decide ((s.size : Int) < 1) = false := by simp; omega
  have q2 : decide ((64 : Int) < (s.size : Int)) = false := by simp; omega
  have hidx : ∀ w, (Instr.index 9 (.string s) (.int .i64 0)).run Tryz.prog w = .ok (.int .u8 (byteAt s 0)) w := idx9 s 0 (by omega)
  have HD : Hid (∀ w, Calls Tryz.prog 102 #[.int .u8 (byteAt s 0)] w fun e w' => e = .returned (.bool false) ∧ w = w') := fun w => g_digit _ _ w hd
  clear hd
  generalize byteAt s 0 = c0 at hidx HD
  go_enter Tryz.func86, Tryz.ntmps86
  go_wp2_with (go_at_call 102; refine (HD.out _).mono ?_; rintro e w1 ⟨rfl, rfl⟩)
  go_loop [19] (fun i => ∃ k : Nat, k ≤ s.size ∧ i = .int .i64 k ∧ NameAt s k R) (fun i => s.size - (intOf i).toNat)
  case atStart => exact ⟨0, Nat.zero_le _, rfl, H0.out⟩
  case round =>
    obtain ⟨k, hk, rfl, hn⟩ := hrel
    have HN : Hid (NameAt s k R) := hn
    clear hn H0 hidx HD
    by_cases hlt : k < s.size
    · have hidx := idx9 s k hlt
      have HNx : Hid (_ = R) := HN.out.next hlt
      have hki : (k : Int) < (s.size : Int) := by omega
      generalize byteAt s k = c at hidx HNx
      cases hl : letB c with
      | true =>
        have HL : Hid (∀ w, Calls Tryz.prog 103 #[.int .u8 c] w fun e w' => e = .returned (.bool true) ∧ w = w') := fun w => g_letter _ _ w hl
        have HS : Hid (NameAt s (k + 1) R) := by have h := HNx.out; rw [nameB_eq, hl, Bool.true_or, Bool.true_and] at h; exact h
        clear hl HNx
        go_wp2_with (go_at_call 103; refine (HL.out _).mono ?_; rintro e w1 ⟨rfl, rfl⟩)
        go_round
        case rel => exact ⟨k + 1, by omega, by go_num, HS.out⟩
        case measure => simp [intOf]; omega
      | false =>
        have HL : Hid (∀ w, Calls Tryz.prog 103 #[.int .u8 c] w fun e w' => e = .returned (.bool false) ∧ w = w') := fun w => g_letter _ _ w hl
        cases hg : digB c with
        | true =>
          have HD : Hid (∀ w, Calls Tryz.prog 102 #[.int .u8 c] w fun e w' => e = .returned (.bool true) ∧ w = w') := fun w => g_digit _ _ w hg
          have HS : Hid (NameAt s (k + 1) R) := by have h := HNx.out; rw [nameB_eq, hl, hg, Bool.false_or, Bool.true_and] at h; exact h
          clear hl hg HNx
          go_wp2_with (first | (go_at_call 103; refine (HL.out _).mono ?_; rintro e w1 ⟨rfl, rfl⟩) | (go_at_call 102; refine (HD.out _).mono ?_; rintro e w1 ⟨rfl, rfl⟩))
          go_round
          case rel => exact ⟨k + 1, by omega, by go_num, HS.out⟩
          case measure => simp [intOf]; omega
        | false =>
          have HD : Hid (∀ w, Calls Tryz.prog 102 #[.int .u8 c] w fun e w' => e = .returned (.bool false) ∧ w = w') := fun w => g_digit _ _ w hg
          have HS : Hid (false = R) := by have h := HNx.out; rw [nameB_eq, hl, hg, Bool.false_or, Bool.false_and] at h; exact h
          clear hl hg HNx
          go_wp2_with (first | (go_at_call 103; refine (HL.out _).mono ?_; rintro e w1 ⟨rfl, rfl⟩) | (go_at_call 102; refine (HD.out _).mono ?_; rintro e w1 ⟨rfl, rfl⟩))
          go_ret
          exact ⟨ret_bool HS.out, rfl⟩
    · have HS : Hid (true = R) := by
        have h := HN.out
        unfold NameAt at h
        rw [List.drop_eq_nil_of_le (by rw [sInts_len]; omega), List.all_nil] at h
        exact h
      have hki : ¬ (k : Int) < (s.size : Int) := by omega
      go_wp2
      go_ret
      exact ⟨ret_bool HS.out, rfl⟩

theorem g_name (s : ByteArray) (w : World) :
    Calls Tryz.prog 86 #[.string s] w fun e w' => e = .returned (.bool (nameR s)) ∧ w = w' := by
  by_cases h1 : s.size < 1
  · have e : nameR s = false := by unfold nameR; rw [decide_eq_false (by omega : ¬ 0 < s.size)]; simp
    rw [e]
    have q1 : decide ((s.size : Int) < 1) = true := by simp; omega
    clear e
    go_enter Tryz.func86, Tryz.ntmps86
    go_wp2
    go_ret
    exact ⟨rfl, rfl⟩
  · by_cases h2 : 64 < s.size
    · have e : nameR s = false := by unfold nameR; rw [decide_eq_false (by omega : ¬ s.size ≤ 64)]; simp
      rw [e]
      have q1 : decide ((s.size : Int) < 1) = false := by simp; omega
      have q2 : decide ((64 : Int) < (s.size : Int)) = true := by simp; omega
      clear e
      go_enter Tryz.func86, Tryz.ntmps86
      go_wp2
      go_ret
      exact ⟨rfl, rfl⟩
    · cases hd : digB (byteAt s 0) with
      | true =>
        have e : nameR s = false := by
          unfold digB at hd
          unfold nameR
          rw [hd]
          simp
        rw [e]
        have q1 : decide ((s.size : Int) < 1) = false := by simp; omega
        have q2 : decide ((64 : Int) < (s.size : Int)) = false := by simp; omega
        have hidx : ∀ w, (Instr.index 9 (.string s) (.int .i64 0)).run Tryz.prog w = .ok (.int .u8 (byteAt s 0)) w := idx9 s 0 (by omega)
        have HD : Hid (∀ w, Calls Tryz.prog 102 #[.int .u8 (byteAt s 0)] w fun e w' => e = .returned (.bool true) ∧ w = w') := fun w => g_digit _ _ w hd
        generalize byteAt s 0 = c0 at hd hidx HD
        clear e hd
        go_enter Tryz.func86, Tryz.ntmps86
        go_wp2_with (go_at_call 102; refine (HD.out _).mono ?_; rintro e w1 ⟨rfl, rfl⟩)
        go_ret
        exact ⟨rfl, rfl⟩
      | false =>
        have e : nameR s = (sInts s).all nameB := by
          unfold digB at hd
          unfold nameR
          rw [decide_eq_true (by omega : 0 < s.size), decide_eq_true (by omega : s.size ≤ 64), hd]
          simp
        rw [e]
        exact gname_loop s _ w (by omega) (by omega) hd rfl
end Go.Proofs.YtpabbmiibehfjaaGreatDoor

/- The program's own fault, Check. -/
namespace Go.Proofs.YtpabbmiibehfjaaGreatDoor
set_option maxRecDepth 20000
open Go.RowKit
set_option linter.unusedVariables false

def faultR (p : Lab) (q : ByteArray) : Int := if nameR p.1 = false then 31 else if validR p.2 = false then 32 else if leB p.1 q = true then 33 else 0
set_option maxHeartbeats 400000 in
theorem g_fault (s1 s2 q : ByteArray) (w : World) : Calls Tryz.prog 75 #[.agg #[.string s1, .string s2], .string q] w fun e w' => e = .returned (.int .i64 (faultR (s1, s2) q)) ∧ w.grownBy w' none := by
  have HCn : Hid (∀ w, Calls Tryz.prog 86 #[.string s1] w fun e w' => e = .returned (.bool (nameR s1)) ∧ w = w') := g_name s1
  have HCv : Hid (∀ w, Calls Tryz.prog 87 #[.string s2] w fun e w' => e = .returned (.bool (validR s2)) ∧ w = w') := g_value s2
  unfold faultR
  show Calls Tryz.prog 75 #[.agg #[.string s1, .string s2], .string q] w fun e w' => e = .returned (.int .i64 (if nameR s1 = false then 31 else if validR s2 = false then 32 else if leB s1 q = true then 33 else 0)) ∧ w.grownBy w' none
  generalize nameR s1 = b1 at HCn ⊢
  generalize validR s2 = b2 at HCv ⊢
  cases b1 with
  | false =>
    rw [if_pos rfl]
    clear HCv
    go_enter Tryz.func75, Tryz.ntmps75
    go_wp2_with (go_at_call 86; refine (HCn.out _).mono ?_; rintro e w1 ⟨rfl, rfl⟩)
    go_ret
    exact ⟨rfl, World.grownBy_alloc w _ none⟩
  | true =>
    rw [if_neg (by simp)]
    cases b2 with
    | false =>
      rw [if_pos rfl]
      go_enter Tryz.func75, Tryz.ntmps75
      go_wp2_with (first | (go_at_call 86; refine (HCn.out _).mono ?_; rintro e w1 ⟨rfl, rfl⟩) | (go_at_call 87; refine (HCv.out _).mono ?_; rintro e w1 ⟨rfl, rfl⟩))
      go_ret
      exact ⟨rfl, World.grownBy_alloc w _ none⟩
    | true =>
      rw [if_neg (by simp)]
      cases hs : leB s1 q with
      | true =>
        have hs' : (Op.bytesLess s1.toList q.toList || s1.toList == q.toList) = true := hs
        rw [if_pos rfl]
        clear hs
        go_enter Tryz.func75, Tryz.ntmps75
        go_wp2_with (first | (go_at_call 86; refine (HCn.out _).mono ?_; rintro e w1 ⟨rfl, rfl⟩) | (go_at_call 87; refine (HCv.out _).mono ?_; rintro e w1 ⟨rfl, rfl⟩))
        go_ret
        exact ⟨rfl, World.grownBy_alloc w _ none⟩
      | false =>
        have hs' : (Op.bytesLess s1.toList q.toList || s1.toList == q.toList) = false := hs
        rw [if_neg (by simp)]
        clear hs
        go_enter Tryz.func75, Tryz.ntmps75
        go_wp2_with (first | (go_at_call 86; refine (HCn.out _).mono ?_; rintro e w1 ⟨rfl, rfl⟩) | (go_at_call 87; refine (HCv.out _).mono ?_; rintro e w1 ⟨rfl, rfl⟩))
        go_ret
        exact ⟨rfl, World.grownBy_alloc w _ none⟩

theorem name_above (s : ByteArray) (h : nameR s = true) : leB s ⟨#[]⟩ = false := by
  have h0 : 0 < s.size := by
    unfold nameR at h
    simp only [Bool.and_eq_true, decide_eq_true_eq] at h
    exact h.1.1.1
  unfold leB
  rw [str_eq]
  have e : (⟨#[]⟩ : ByteArray).toList = [] := by rw [ByteArray.toList_eq]
  have hne : ¬ s = ⟨#[]⟩ := fun e => by rw [e] at h0; exact absurd h0 (by decide)
  rw [e, decide_eq_false hne]
  cases s.toList <;> rfl
/-- The Name ahead of a label: none of the first. -/
def aheadOf (ls : List Lab) (k : Nat) : ByteArray := (prevOf ls k).getD ⟨#[]⟩
theorem ChkAt.fault {ls : List Lab} {k : Nat} {R : Int} {p : Lab} (h : ChkAt ls k R) (hp : ls[k]? = some p) : (if faultR p (aheadOf ls k) ≠ 0 then faultR p (aheadOf ls k) else chk (some p.1) (ls.drop (k + 1))) = R := by
  have := h.next hp
  rw [← this]
  unfold faultR aheadOf
  cases hn : nameR p.1 with
  | false => simp
  | true =>
    cases hv : validR p.2 with
    | false => simp
    | true =>
      cases hq : prevOf ls k with
      | none => simp [sortB, name_above p.1 hn]
      | some q => cases hs : leB p.1 q <;> simp [sortB, hs]

set_option maxHeartbeats 1000000 in
theorem gcheck_loop (a : Option Addr) (ls : List Lab) (L c : Nat) (R : Int) (w : World) (hx : SRd labE w a ls) (hL : ls.length = L) (hz : L ≤ 16) (hR : chk none ls = R) :
    Calls Tryz.prog 63 #[.slice a L c] w fun e w' => e = .returned (.int .i64 R) ∧ w.grownBy w' none := by
  have HX : Hid (SRd labE w a ls) := hx
  have HL : Hid (ls.length = L) := hL
  have H0 : Hid (ChkAt ls 0 R) := hR
  have q0 : decide ((16 : Int) < (L : Int)) = false := by simp; omega
  clear hx hL hR
  go_enter Tryz.func63, Tryz.ntmps63
  go_wp2
  go_loopw [3, 12] (fun t3 i wr => ∃ k : Nat, k ≤ L ∧ t3 = .string (aheadOf ls k) ∧ i = .int .i64 k ∧ w.grownBy wr none ∧ ChkAt ls k R) (fun _ i _ => L - (intOf i).toNat)
  case atStart => exact ⟨0, Nat.zero_le _, rfl, rfl, World.grownBy.refl _ _, H0.out⟩
  case round =>
    obtain ⟨k, hk, rfl, rfl, hg, hc⟩ := hrel
    have HG : Hid (w.grownBy wr none) := hg
    have HC : Hid (ChkAt ls k R) := hc
    clear hg hc H0
    by_cases hlt : k < L
    · have hl := HL.out
      obtain ⟨b, off, rfl, hcc⟩ := (HX.out.grown HG.out (by simp)).at (by omega)
      obtain ⟨⟨s1, s2⟩, ex⟩ : ∃ x, ls[k]? = some x := ⟨_, List.getElem?_eq_getElem (by omega)⟩
      have a0 : wr.cell? ⟨b, off + k * 2, none⟩ = some (.string s1) := hcc k _ 0 _ ex rfl
      have a1 : wr.cell? ⟨b, off + k * 2 + 1, none⟩ = some (.string s2) := by rw [Nat.add_assoc]; exact hcc k _ 1 _ ex rfl
      have HN : Hid (_ = R) := HC.out.fault ex
      have HA : Hid (aheadOf ls (k + 1) = s1) := by show _ = _; unfold aheadOf; rw [prevOf_next ex]; rfl
      have HP : Hid (prevOf ls (k + 1) = some s1) := prevOf_next ex
      have hi1 : (k : Int) < (L : Int) := by omega
      have HCf : Hid (∀ w, Calls Tryz.prog 75 #[.agg #[.string s1, .string s2], .string (aheadOf ls k)] w fun e w' => e = .returned (.int .i64 (faultR (s1, s2) (aheadOf ls k))) ∧ w.grownBy w' none) := g_fault s1 s2 _
      clear hcc ex hl
      generalize faultR (s1, s2) (aheadOf ls k) = f at HCf HN
      generalize aheadOf ls k = q at HCf ⊢
      by_cases hf : f = 0
      · have q1 : (f != 0) = false := by simpa using hf
        have HS : Hid (ChkAt ls (k + 1) R) := by
          have h := HN.out
          rw [if_neg (by simpa using hf)] at h
          show chk (prevOf ls (k + 1)) _ = R
          rw [HP.out]
          exact h
        clear HN hf HP
        go_wp2_with fail
        refine (HCf.out _).mono ?_
        rintro e w1 ⟨rfl, hg1⟩
        have c0 : w1.cell? ⟨wr.heap.size, 0, none⟩ = some (.string s1) := hg1.cell (by rw [cell_of_row _ wr.heap.size 0 _ _ _ (heap_alloc_new wr _)]; rfl) (by simp)
        have HG1 : Hid (w.grownBy w1 none) := HG.out.trans ((World.grownBy_alloc wr _ none).trans hg1)
        clear hg1
        go_wp2
        go_roundw
        case rel => exact ⟨k + 1, by omega, by rw [HA.out], by go_num, HG1.out, HS.out⟩
        case measure => simp [intOf]; omega
      · have q1 : (f != 0) = true := by simpa using hf
        have HS : Hid (f = R) := by have h := HN.out; rw [if_pos (by simpa using hf)] at h; exact h
        clear HN hf
        go_wp2_with fail
        refine (HCf.out _).mono ?_
        rintro e w1 ⟨rfl, hg1⟩
        have HG1 : Hid (w.grownBy w1 none) := HG.out.trans ((World.grownBy_alloc wr _ none).trans hg1)
        clear hg1
        go_wp2
        go_ret
        exact ⟨ret_int HS.out, HG1.out⟩
    · have HS : Hid ((0 : Int) = R) := by
        have h := HC.out
        unfold ChkAt at h
        rw [List.drop_eq_nil_of_le (by have := HL.out; omega), chk] at h
        exact h
      have hki : ¬ (k : Int) < (L : Int) := by omega
      go_wp2
      go_ret
      exact ⟨ret_int HS.out, HG.out⟩
theorem f_check (a : Option Addr) (ls : List Lab) (L c : Nat) (R : Int) (w : World) (hx : SRd labE w a ls) (hL : ls.length = L) (hz : L ≤ 4398046511104) (hR : checkR ls = R) :
    Calls Tryz.prog 63 #[.slice a L c] w fun e w' => e = .returned (.int .i64 R) ∧ w.grownBy w' none := by
  unfold checkR at hR
  by_cases h : 16 < ls.length
  · rw [if_pos h] at hR
    subst hR
    have q0 : decide ((16 : Int) < (L : Int)) = true := by simp; omega
    clear hx hL h
    go_enter Tryz.func63, Tryz.ntmps63
    go_wp2
    go_ret
    exact ⟨rfl, World.grownBy.refl _ _⟩
  · rw [if_neg h] at hR
    exact gcheck_loop a ls L c R w hx hL (by omega) hR
end Go.Proofs.YtpabbmiibehfjaaGreatDoor

