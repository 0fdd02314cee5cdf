/- The program's own isUTF8, isValue. -/
import Derived.Test.YtailaehpgmpaaaaRchar
import Derived.WalkMore
import Derived.ScopeJumps
namespace Go.Proofs.Ytailaehpgmpaaaa
open Go.RowKit
set_option linter.unusedVariables false

/-- As Q; by a goto to a label: J of the label. -/
def jumps (J : Nat → Act → World → Prop) (Q : Exit → Act → World → Prop) : Exit → Act → World → Prop
  | .goto l, a, w => J l a w
  | e, a, w => Q e a w
theorem jumps_mono {P : Program} {J J' : Nat → Act → World → Prop} {Q : Exit → Act → World → Prop} {c : Code} {a : Act} {w : World} (hJ : ∀ l a w, J l a w → J' l a w) (h : c.wp P (jumps J Q) a w) : c.wp P (jumps J' Q) a w := by
  refine Code.wp_mono (fun e a' w' q => ?_) h
  cases e with
  | goto l => exact hJ l a' w' q
  | _ => exact q

/-- A scope with labels: what holds at each, and a measure that every way from one label to the next lowers. -/
theorem wp_scope_labels {P : Program} {a : Act} {w : World} {Q : Exit → Act → World → Prop} {c : Code} (J : Nat → Act → World → Prop) (μ : Nat → Act → World → Nat)
    (first : c.wp P (jumps J Q) a w)
    (pass : ∀ l a w, J l a w → ∃ rest, findLabel c l = some rest ∧ rest.wp P (jumps (fun l' a' w' => J l' a' w' ∧ μ l' a' w' < μ l a w) Q) a w) : (Code.scope c).wp P Q a w := by
  intro b k cs
  have key : ∀ n l a w, μ l a w = n → J l a w → ∃ rest, findLabel c l = some rest ∧ ∃ e a' w', Q e a' w' ∧ Arrives P (lone (b.at a (.code rest :: .inScope c :: k)) cs w) b k cs e a' w' := by
    intro n
    induction n using Nat.strongRecOn with
    | _ n ih =>
      intro l a w hn hJ
      obtain ⟨rest, hf, hp⟩ := pass l a w hJ
      refine ⟨rest, hf, ?_⟩
      obtain ⟨e, a₁, w₁, hq, harr⟩ := hp b (.inScope c :: k) cs
      cases e with
      | normal => exact ⟨.normal, a₁, w₁, hq, Steps.trans harr (.one step_inScope)⟩
      | exit id => exact ⟨.exit id, a₁, w₁, hq, fun k' hk => harr k' (by simp [exitTo, hk])⟩
      | goto l' =>
        obtain ⟨hJ', hlt⟩ := hq
        obtain ⟨rest', hf', e₂, a₂, w₂, hq₂, harr₂⟩ := ih _ (by omega) l' a₁ w₁ rfl hJ'
        have hg : gotoIn l' (.inScope c :: k) = some (.code rest' :: .inScope c :: k) := by simp [gotoIn, hf']
        exact ⟨e₂, a₂, w₂, hq₂, .of_steps (harr _ hg) harr₂⟩
      | ret => exact ⟨_, a₁, w₁, hq, harr⟩
      | panic ch => exact ⟨_, a₁, w₁, hq, harr⟩
      | outgrown => exact ⟨_, a₁, w₁, hq, harr⟩
  obtain ⟨e, a₁, w₁, hq, harr⟩ := first b (.inScope c :: k) cs
  cases e with
  | normal => exact ⟨.normal, a₁, w₁, hq, .head step_scope (Steps.trans harr (.one step_inScope))⟩
  | exit id => exact ⟨.exit id, a₁, w₁, hq, fun k' hk => .head step_scope (harr k' (by simp [exitTo, hk]))⟩
  | goto l' =>
    obtain ⟨rest', hf', e₂, a₂, w₂, hq₂, harr₂⟩ := key _ l' a₁ w₁ rfl hq
    have hg : gotoIn l' (.inScope c :: k) = some (.code rest' :: .inScope c :: k) := by simp [gotoIn, hf']
    exact ⟨e₂, a₂, w₂, hq₂, .of_steps (.head step_scope (harr _ hg)) harr₂⟩
  | ret => exact ⟨_, a₁, w₁, hq, .of_steps (.one step_scope) harr⟩
  | panic ch => exact ⟨_, a₁, w₁, hq, .of_steps (.one step_scope) harr⟩
  | outgrown => exact ⟨_, a₁, w₁, hq, .of_steps (.one step_scope) harr⟩

/-- Three labels, met in the text in the order 0, 2, 1. -/
theorem wp_scope_three {P : Program} {a : Act} {w : World} {Q : Exit → Act → World → Prop} {c r0 r1 r2 : Code} (J : Nat → Act → World → Prop) (μ : Nat → Act → World → Nat)
    (h0 : findLabel c 0 = some (Code.skip.seq r0)) (h1 : findLabel c 1 = some (Code.skip.seq r1)) (h2 : findLabel c 2 = some (Code.skip.seq r2)) (hJ : ∀ l a w, J l a w → l < 3)
    (pass1 : ∀ a w, J 1 a w → r1.wp P (jumps (fun l a' w' => J l a' w' ∧ μ l a' w' < μ 1 a w) Q) a w)
    (pass2 : (∀ n a w, J 1 a w → μ 1 a w ≤ n → r1.wp P (jumps (fun l a' w' => J l a' w' ∧ μ l a' w' < n) Q) a w) → ∀ a w, J 2 a w → r2.wp P (jumps (fun l a' w' => J l a' w' ∧ μ l a' w' < μ 2 a w) Q) a w)
    (pass0 : (∀ n a w, J 2 a w → μ 2 a w ≤ n → r2.wp P (jumps (fun l a' w' => J l a' w' ∧ μ l a' w' < n) Q) a w) → ∀ a w, J 0 a w → r0.wp P (jumps (fun l a' w' => J l a' w' ∧ μ l a' w' < μ 0 a w) Q) a w)
    (first : (∀ a w, J 0 a w → r0.wp P (jumps J Q) a w) → c.wp P (jumps J Q) a w) : (Code.scope c).wp P Q a w := by
  have q1 := pass1
  have q2 := pass2 (fun n a w h hn => jumps_mono (fun l a' w' h' => ⟨h'.1, Nat.lt_of_lt_of_le h'.2 hn⟩) (pass1 a w h))
  have q0 := pass0 (fun n a w h hn => jumps_mono (fun l a' w' h' => ⟨h'.1, Nat.lt_of_lt_of_le h'.2 hn⟩) (q2 a w h))
  refine wp_scope_labels J μ (first fun a w h => jumps_mono (fun l a' w' h' => h'.1) (q0 a w h)) fun l a w h => ?_
  have hl := hJ l a w h
  match l, hl, h with
  | 0, _, h => exact ⟨_, h0, wp_seq (wp_skip (q0 a w h))⟩
  | 1, _, h => exact ⟨_, h1, wp_seq (wp_skip (q1 a w h))⟩
  | 2, _, h => exact ⟨_, h2, wp_seq (wp_skip (q2 a w h))⟩

def stdB (s : ByteArray) (k : Nat) (lo hi : Int) : Bool := decide (k < s.size) && decide (lo ≤ byteAt s k) && decide (byteAt s k ≤ hi)
def lo2 (c : Int) : Int := if c = 224 then 160 else if c = 240 then 144 else 128
def hi2 (c : Int) : Int := if c = 237 then 159 else if c = 244 then 143 else 191
def V1 (s : ByteArray) (k : Nat) (lo hi : Int) : Bool := stdB s k lo hi && vfrom s (k + 1)
def V2 (s : ByteArray) (k : Nat) (lo hi : Int) : Bool := stdB s k lo hi && V1 s (k + 1) 128 191
def V3 (s : ByteArray) (k : Nat) (lo hi : Int) : Bool := stdB s k lo hi && V2 s (k + 1) 128 191
theorem stdB_iff (s : ByteArray) (k : Nat) (lo hi : Int) : stdB s k lo hi = true ↔ k < s.size ∧ lo ≤ byteAt s k ∧ byteAt s k ≤ hi := by
  unfold stdB
  simp only [Bool.and_eq_true, decide_eq_true_eq, and_assoc]
theorem vfrom_eq (s : ByteArray) (k : Nat) (hk : k < s.size) : vfrom s k = if 0 < charR s k then vfrom s (k + (charR s k).toNat) else false := by
  rw [vfrom]
  by_cases hc : 0 < charR s k
  · rw [dif_pos ⟨hk, hc⟩, if_pos hc]
  · rw [dif_neg (fun x => hc x.2), if_neg hc]
    exact decide_eq_false (by omega)
theorem fin_iff (n least v : Int) : fin n least v = if least ≤ v ∧ v ≤ 1114111 ∧ ¬ (55296 ≤ v ∧ v ≤ 57343) then n else 0 := by
  unfold fin
  by_cases h : v < least ∨ 1114111 < v ∨ 55296 ≤ v ∧ v ≤ 57343
  · rw [if_pos h, if_neg (by omega)]
  · rw [if_neg h, if_pos (by omega)]
theorem multi2 (s : ByteArray) (p : Nat) (v : Int) : multi s p 2 128 v = if p + 1 < s.size ∧ byteAt s (p + 1) / 64 = 2 ∧ 128 ≤ v * 64 + byteAt s (p + 1) % 64 ∧ v * 64 + byteAt s (p + 1) % 64 ≤ 1114111 ∧ ¬ (55296 ≤ v * 64 + byteAt s (p + 1) % 64 ∧ v * 64 + byteAt s (p + 1) % 64 ≤ 57343) then 2 else 0 := by
  unfold multi
  by_cases h : s.size < p + 2
  · rw [if_pos h, if_neg (by omega)]
  · rw [if_neg h]
    show fini _ 128 (cont s p 1 1 v) = _
    rw [cont]
    by_cases h1 : byteAt s (p + 1) / 64 = 2
    · rw [if_pos h1, cont]
      show fin _ _ _ = _
      rw [fin_iff]
      generalize v * 64 + byteAt s (p + 1) % 64 = X
      by_cases h2 : 128 ≤ X ∧ X ≤ 1114111 ∧ ¬ (55296 ≤ X ∧ X ≤ 57343)
      · rw [if_pos h2, if_pos ⟨by omega, h1, h2⟩]; rfl
      · rw [if_neg h2, if_neg (fun x => h2 x.2.2)]
    · rw [if_neg h1, if_neg (fun x => h1 x.2.1)]; rfl
theorem multi3 (s : ByteArray) (p : Nat) (v : Int) : multi s p 3 2048 v = if p + 2 < s.size ∧ byteAt s (p + 1) / 64 = 2 ∧ byteAt s (p + 2) / 64 = 2 ∧ 2048 ≤ (v * 64 + byteAt s (p + 1) % 64) * 64 + byteAt s (p + 2) % 64 ∧ (v * 64 + byteAt s (p + 1) % 64) * 64 + byteAt s (p + 2) % 64 ≤ 1114111 ∧ ¬ (55296 ≤ (v * 64 + byteAt s (p + 1) % 64) * 64 + byteAt s (p + 2) % 64 ∧ (v * 64 + byteAt s (p + 1) % 64) * 64 + byteAt s (p + 2) % 64 ≤ 57343) then 3 else 0 := by
  unfold multi
  by_cases h : s.size < p + 3
  · rw [if_pos h, if_neg (by omega)]
  · rw [if_neg h]
    show fini _ 2048 (cont s p 2 1 v) = _
    rw [cont]
    by_cases h1 : byteAt s (p + 1) / 64 = 2
    · rw [if_pos h1, cont]
      by_cases h3 : byteAt s (p + 2) / 64 = 2
      · rw [if_pos h3, cont]
        show fin _ _ _ = _
        rw [fin_iff]
        generalize (v * 64 + byteAt s (p + 1) % 64) * 64 + byteAt s (p + 2) % 64 = X
        by_cases h2 : 2048 ≤ X ∧ X ≤ 1114111 ∧ ¬ (55296 ≤ X ∧ X ≤ 57343)
        · rw [if_pos h2, if_pos ⟨by omega, h1, h3, h2⟩]; rfl
        · rw [if_neg h2, if_neg (fun x => h2 x.2.2.2)]
      · rw [if_neg h3, if_neg (fun x => h3 x.2.2.1)]; rfl
    · rw [if_neg h1, if_neg (fun x => h1 x.2.1)]; rfl
theorem multi4 (s : ByteArray) (p : Nat) (v : Int) : multi s p 4 65536 v = if p + 3 < s.size ∧ byteAt s (p + 1) / 64 = 2 ∧ byteAt s (p + 2) / 64 = 2 ∧ byteAt s (p + 3) / 64 = 2 ∧ 65536 ≤ ((v * 64 + byteAt s (p + 1) % 64) * 64 + byteAt s (p + 2) % 64) * 64 + byteAt s (p + 3) % 64 ∧ ((v * 64 + byteAt s (p + 1) % 64) * 64 + byteAt s (p + 2) % 64) * 64 + byteAt s (p + 3) % 64 ≤ 1114111 ∧ ¬ (55296 ≤ ((v * 64 + byteAt s (p + 1) % 64) * 64 + byteAt s (p + 2) % 64) * 64 + byteAt s (p + 3) % 64 ∧ ((v * 64 + byteAt s (p + 1) % 64) * 64 + byteAt s (p + 2) % 64) * 64 + byteAt s (p + 3) % 64 ≤ 57343) then 4 else 0 := by
  unfold multi
  by_cases h : s.size < p + 4
  · rw [if_pos h, if_neg (by omega)]
  · rw [if_neg h]
    show fini _ 65536 (cont s p 3 1 v) = _
    rw [cont]
    by_cases h1 : byteAt s (p + 1) / 64 = 2
    · rw [if_pos h1, cont]
      by_cases h3 : byteAt s (p + 2) / 64 = 2
      · rw [if_pos h3, cont]
        by_cases h4 : byteAt s (p + 3) / 64 = 2
        · rw [if_pos h4, cont]
          show fin _ _ _ = _
          rw [fin_iff]
          generalize ((v * 64 + byteAt s (p + 1) % 64) * 64 + byteAt s (p + 2) % 64) * 64 + byteAt s (p + 3) % 64 = X
          by_cases h2 : 65536 ≤ X ∧ X ≤ 1114111 ∧ ¬ (55296 ≤ X ∧ X ≤ 57343)
          · rw [if_pos h2, if_pos ⟨by omega, h1, h3, h4, h2⟩]; rfl
          · rw [if_neg h2, if_neg (fun x => h2 x.2.2.2.2)]
        · rw [if_neg h4, if_neg (fun x => h4 x.2.2.2.1)]; rfl
      · rw [if_neg h3, if_neg (fun x => h3 x.2.2.1)]; rfl
    · rw [if_neg h1, if_neg (fun x => h1 x.2.1)]; rfl

theorem vstep1 (s : ByteArray) (k : Nat) (hk : k < s.size) (hc : byteAt s k < 128) : vfrom s k = vfrom s (k + 1) := by
  rw [vfrom_eq s k hk]
  have e : charR s k = 1 := by unfold charR; rw [if_pos hc]
  rw [e, if_pos (by omega)]
  rfl
theorem vstep0 (s : ByteArray) (k : Nat) (hk : k < s.size) (hc : 128 ≤ byteAt s k) (h : byteAt s k < 194 ∨ 244 < byteAt s k) : vfrom s k = false := by
  rw [vfrom_eq s k hk]
  have hb := byteAt_bd s k
  have b1 := byteAt_bd s (k + 1)
  have b2 := byteAt_bd s (k + 2)
  have b3 := byteAt_bd s (k + 3)
  have e : charR s k = 0 := by
    unfold charR
    rw [multi2, multi3, multi4]
    generalize byteAt s k = c at *
    generalize byteAt s (k + 1) = d1 at *
    generalize byteAt s (k + 2) = d2 at *
    generalize byteAt s (k + 3) = d3 at *
    rw [if_neg (by omega)]
    split
    · rw [if_neg (by omega)]
    · rw [if_neg (by omega)]
      split
      · rw [if_neg (by omega)]
      · rfl
  rw [e]
  rfl
theorem vstep2 (s : ByteArray) (k : Nat) (hk : k < s.size) (hc : 194 ≤ byteAt s k ∧ byteAt s k < 224) : vfrom s k = V1 s (k + 1) 128 191 := by
  rw [vfrom_eq s k hk]
  have b1 := byteAt_bd s (k + 1)
  have hs := stdB_iff s (k + 1) 128 191
  have e : charR s k = if stdB s (k + 1) 128 191 = true then 2 else 0 := by
    unfold charR
    rw [multi2, if_neg (by omega), if_pos (by omega)]
    by_cases h : stdB s (k + 1) 128 191 = true
    · rw [if_pos h, if_pos (by have := hs.1 h; omega)]
    · rw [if_neg h, if_neg (fun x => h (hs.2 (by omega)))]
  rw [e]
  unfold V1
  cases stdB s (k + 1) 128 191 with
  | false => rfl
  | true => rfl
theorem lo2_eq (c : Int) : (c = 224 → lo2 c = 160) ∧ (c = 240 → lo2 c = 144) ∧ (c ≠ 224 → c ≠ 240 → lo2 c = 128) := by
  unfold lo2
  refine ⟨fun h => by rw [if_pos h], fun h => by rw [if_neg (by omega), if_pos h], fun h h' => by rw [if_neg h, if_neg h']⟩
theorem hi2_eq (c : Int) : (c = 237 → hi2 c = 159) ∧ (c = 244 → hi2 c = 143) ∧ (c ≠ 237 → c ≠ 244 → hi2 c = 191) := by
  unfold hi2
  refine ⟨fun h => by rw [if_pos h], fun h => by rw [if_neg (by omega), if_pos h], fun h h' => by rw [if_neg h, if_neg h']⟩
theorem vstep3 (s : ByteArray) (k : Nat) (hk : k < s.size) (hc : 224 ≤ byteAt s k ∧ byteAt s k < 240) : vfrom s k = V2 s (k + 1) (lo2 (byteAt s k)) (hi2 (byteAt s k)) := by
  rw [vfrom_eq s k hk]
  have b1 := byteAt_bd s (k + 1)
  have b2 := byteAt_bd s (k + 2)
  have hlo := lo2_eq (byteAt s k)
  have hhi := hi2_eq (byteAt s k)
  have hs := stdB_iff s (k + 1) (lo2 (byteAt s k)) (hi2 (byteAt s k))
  have hs2 : stdB s (k + 1 + 1) 128 191 = true ↔ k + 2 < s.size ∧ 128 ≤ byteAt s (k + 2) ∧ byteAt s (k + 2) ≤ 191 := stdB_iff s (k + 2) 128 191
  have e : charR s k = if stdB s (k + 1) (lo2 (byteAt s k)) (hi2 (byteAt s k)) = true ∧ stdB s (k + 1 + 1) 128 191 = true then 3 else 0 := by
    unfold charR
    rw [multi3, if_neg (by omega), if_neg (by omega), if_pos (by omega)]
    generalize stdB s (k + 1) (lo2 (byteAt s k)) (hi2 (byteAt s k)) = x1 at *
    generalize stdB s (k + 1 + 1) 128 191 = x2 at *
    generalize lo2 (byteAt s k) = lo at *
    generalize hi2 (byteAt s k) = hi at *
    generalize byteAt s k = c at *
    generalize byteAt s (k + 1) = d1 at *
    generalize byteAt s (k + 2) = d2 at *
    by_cases h : k + 2 < s.size ∧ d1 / 64 = 2 ∧ d2 / 64 = 2 ∧ 2048 ≤ (c % 16 * 64 + d1 % 64) * 64 + d2 % 64 ∧ (c % 16 * 64 + d1 % 64) * 64 + d2 % 64 ≤ 1114111 ∧ ¬ (55296 ≤ (c % 16 * 64 + d1 % 64) * 64 + d2 % 64 ∧ (c % 16 * 64 + d1 % 64) * 64 + d2 % 64 ≤ 57343)
    · rw [if_pos h, if_pos ⟨hs.2 (by clear hs hs2; omega), hs2.2 (by clear hs hs2; omega)⟩]
    · rw [if_neg h, if_neg (fun x => h (by have y1 := hs.1 x.1; have y2 := hs2.1 x.2; clear hs hs2 x h; omega))]
  rw [e]
  unfold V2 V1
  generalize stdB s (k + 1) (lo2 (byteAt s k)) (hi2 (byteAt s k)) = x1
  generalize stdB s (k + 1 + 1) 128 191 = x2
  cases x1 <;> cases x2 <;> rfl
theorem vstep4 (s : ByteArray) (k : Nat) (hk : k < s.size) (hc : 240 ≤ byteAt s k ∧ byteAt s k ≤ 244) : vfrom s k = V3 s (k + 1) (lo2 (byteAt s k)) (hi2 (byteAt s k)) := by
  rw [vfrom_eq s k hk]
  have b1 := byteAt_bd s (k + 1)
  have b2 := byteAt_bd s (k + 2)
  have b3 := byteAt_bd s (k + 3)
  have hlo := lo2_eq (byteAt s k)
  have hhi := hi2_eq (byteAt s k)
  have hs := stdB_iff s (k + 1) (lo2 (byteAt s k)) (hi2 (byteAt s k))
  have hs2 : stdB s (k + 1 + 1) 128 191 = true ↔ k + 2 < s.size ∧ 128 ≤ byteAt s (k + 2) ∧ byteAt s (k + 2) ≤ 191 := stdB_iff s (k + 2) 128 191
  have hs3 : stdB s (k + 1 + 1 + 1) 128 191 = true ↔ k + 3 < s.size ∧ 128 ≤ byteAt s (k + 3) ∧ byteAt s (k + 3) ≤ 191 := stdB_iff s (k + 3) 128 191
  have e : charR s k = if stdB s (k + 1) (lo2 (byteAt s k)) (hi2 (byteAt s k)) = true ∧ stdB s (k + 1 + 1) 128 191 = true ∧ stdB s (k + 1 + 1 + 1) 128 191 = true then 4 else 0 := by
    unfold charR
    rw [multi4, if_neg (by omega), if_neg (by omega), if_neg (by omega), if_pos (by omega)]
    generalize stdB s (k + 1) (lo2 (byteAt s k)) (hi2 (byteAt s k)) = x1 at *
    generalize stdB s (k + 1 + 1) 128 191 = x2 at *
    generalize stdB s (k + 1 + 1 + 1) 128 191 = x3 at *
    generalize lo2 (byteAt s k) = lo at *
    generalize hi2 (byteAt s k) = hi at *
    generalize byteAt s k = c at *
    generalize byteAt s (k + 1) = d1 at *
    generalize byteAt s (k + 2) = d2 at *
    generalize byteAt s (k + 3) = d3 at *
    by_cases h : k + 3 < s.size ∧ d1 / 64 = 2 ∧ d2 / 64 = 2 ∧ d3 / 64 = 2 ∧ 65536 ≤ ((c % 8 * 64 + d1 % 64) * 64 + d2 % 64) * 64 + d3 % 64 ∧ ((c % 8 * 64 + d1 % 64) * 64 + d2 % 64) * 64 + d3 % 64 ≤ 1114111 ∧ ¬ (55296 ≤ ((c % 8 * 64 + d1 % 64) * 64 + d2 % 64) * 64 + d3 % 64 ∧ ((c % 8 * 64 + d1 % 64) * 64 + d2 % 64) * 64 + d3 % 64 ≤ 57343)
    · rw [if_pos h, if_pos ⟨hs.2 (by clear hs hs2 hs3; omega), hs2.2 (by clear hs hs2 hs3; omega), hs3.2 (by clear hs hs2 hs3; omega)⟩]
    · rw [if_neg h, if_neg (fun x => h (by have y1 := hs.1 x.1; have y2 := hs2.1 x.2.1; have y3 := hs3.1 x.2.2; clear hs hs2 hs3 x h; omega))]
  rw [e]
  unfold V3 V2 V1
  generalize stdB s (k + 1) (lo2 (byteAt s k)) (hi2 (byteAt s k)) = x1
  generalize stdB s (k + 1 + 1) 128 191 = x2
  generalize stdB s (k + 1 + 1 + 1) 128 191 = x3
  cases x1 <;> cases x2 <;> cases x3 <;> rfl
end Go.Proofs.Ytailaehpgmpaaaa
