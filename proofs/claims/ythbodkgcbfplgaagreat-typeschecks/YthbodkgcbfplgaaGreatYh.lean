/- The document's of is ours. -/
import Derived.Test.YthbodkgcbfplgaaGreatYg
namespace Go.Proofs.YthbodkgcbfplgaaGreat
open Go.RowKit
set_option linter.unusedVariables false
set_option linter.unusedSimpArgs false
set_option maxRecDepth 20000

theorem o4 (op wi ba gr : Int) (tx : ByteArray) (ms : List Mt) (ns : List ByteArray) (bo : Bool) (p : Int) (hp : TyB p) :
    (ofT ⟨4, op, tx, ms, wi, ba, gr, ns, bo, 1⟩ [p], ofC ⟨4, op, tx, ms, wi, ba, gr, ns, bo, 1⟩ [p]) = of4 p (op == 11) (op == 12) := by
  by_cases h1 : op = 11 <;> by_cases h2 : op = 12 <;> rcases hp with rfl | rfl | rfl <;> simp [ofT, ofC, wantsB, kindT, cntT, of4, h1, h2]
theorem o5 (op wi ba gr : Int) (tx : ByteArray) (ms : List Mt) (ns : List ByteArray) (bo : Bool) (p : Int) (hp : TyB p) :
    (ofT ⟨5, op, tx, ms, wi, ba, gr, ns, bo, 1⟩ [p], ofC ⟨5, op, tx, ms, wi, ba, gr, ns, bo, 1⟩ [p]) = of5 p := by
  rcases hp with rfl | rfl | rfl <;> simp [ofT, ofC, wantsB, kindT, cntT, of5]
theorem o7 (op wi ba gr : Int) (tx : ByteArray) (ms : List Mt) (ns : List ByteArray) (bo : Bool) (p : Int) (hp : TyB p) :
    (ofT ⟨7, op, tx, ms, wi, ba, gr, ns, bo, 1⟩ [p], ofC ⟨7, op, tx, ms, wi, ba, gr, ns, bo, 1⟩ [p]) = of7 p := by
  rcases hp with rfl | rfl | rfl <;> simp [ofT, ofC, wantsB, kindT, cntT, of7, floats]
theorem o6 (op wi ba gr : Int) (tx : ByteArray) (ms : List Mt) (ns : List ByteArray) (bo : Bool) (p q : Int) (hp : TyB p) (hq : TyB q) (hop : op ≤ 13) :
    (ofT ⟨6, op, tx, ms, wi, ba, gr, ns, bo, 2⟩ [p, q], ofC ⟨6, op, tx, ms, wi, ba, gr, ns, bo, 2⟩ [p, q]) = of6 p q (decide (11 ≤ op)) (gr != 0) (decide (5 ≤ op)) (decide (op ≤ 10)) bo := by
  have hs : setB op = decide (11 ≤ op) := by unfold setB; rw [decide_eq_true hop, Bool.and_true]
  have hc : cmpT op = (decide (5 ≤ op) && decide (op ≤ 10)) := rfl
  have hw : wantsB ⟨6, op, tx, ms, wi, ba, gr, ns, bo, 2⟩ [p, q] = (if setB op = true ∨ gr ≠ 0 then decide (cntT 2 [p, q] = 2) else if cmpT op = true ∧ bo = false then floats [p, q] && decide (0 < cntT 2 [p, q]) else floats [p, q]) := rfl
  have hk : kindT ⟨6, op, tx, ms, wi, ba, gr, ns, bo, 2⟩ [p, q] = if ¬ 0 < cntT 2 [p, q] then 1 else 2 := by unfold kindT; simp
  unfold ofT ofC
  rw [hw, hk, hs, hc]
  generalize decide (11 ≤ op) = s1
  generalize decide (5 ≤ op) = c1
  generalize decide (op ≤ 10) = c2
  by_cases hg : gr = 0
  · have hgb : (gr != 0) = false := by simp [hg]
    rw [hgb]
    simp only [hg]
    rcases hp with rfl | rfl | rfl <;> rcases hq with rfl | rfl | rfl <;> cases s1 <;> cases c1 <;> cases c2 <;> cases bo <;> decide +kernel
  · have hgb : (gr != 0) = true := by simp [hg]
    rw [hgb]
    have hgp : (gr ≠ 0) ↔ True := ⟨fun _ => trivial, fun _ => hg⟩
    simp only [hgp]
    rcases hp with rfl | rfl | rfl <;> rcases hq with rfl | rfl | rfl <;> cases s1 <;> cases c1 <;> cases c2 <;> cases bo <;> decide +kernel
theorem r_of (x : Nd) (ma na : Option Addr) (mc nc : Nat) (w : World) (pv : Option Addr) (pc : Nat) (ps : List Int) (h : SRd numE w pv ps) (ht : ∀ k ∈ ps, TyB k) (hf : formB x = true) (hl : (ps.length : Int) = x.parts) :
    Calls Tryz.prog 17 #[.agg (ndA x (ma, x.mat.length, mc) (na, x.names.length, nc)), .slice pv ps.length pc] w fun e w' => e = .returned (.tuple #[.int .i64 (ofT x ps), .int .i64 (ofC x ps)]) ∧ w.grownBy w' none := by
  obtain ⟨hpa, hkb⟩ := form_parts hf
  have hop : x.kind = 6 → x.op ≤ 13 := fun h6 => by
    unfold formB foB at hf
    rw [h6] at hf
    simp only [Bool.and_eq_true] at hf
    have := hf.2.1
    unfold inB at this
    simp only [Bool.and_eq_true, decide_eq_true_eq] at this
    exact this.2
  obtain ⟨kd, op, tx, ms, wi, ba, gr, ns, bo, pa⟩ := x
  simp only at hpa hkb hl hop
  rw [fo_parts hkb] at hpa
  have hk2 : kd = 1 ∨ kd = 2 ∨ kd = 3 ∨ kd = 4 ∨ kd = 5 ∨ kd = 6 ∨ kd = 7 := by
    unfold kindB at hkb
    simp only [Bool.and_eq_true, decide_eq_true_eq] at hkb
    omega
  clear hf hkb
  have one : ∀ p, ps = [p] → ∃ b o, pv = some ⟨b, o, none⟩ ∧ w.cell? ⟨b, o, none⟩ = some (.int .i64 p) ∧ TyB p := fun p e => by
    subst e
    obtain ⟨b, o, e2, hc⟩ := h.at (by simp)
    exact ⟨b, o, e2, hc 0 p 0 _ rfl rfl, ht p (by simp)⟩
  rcases hk2 with rfl | rfl | rfl | rfl | rfl | rfl | rfl
  · obtain rfl : ps = [] := List.eq_nil_of_length_eq_zero (by simp at hpa; omega)
    exact ro_1 op wi ba gr pa tx ma na ms.length mc ns.length nc bo pv 0 pc w
  · obtain rfl : ps = [] := List.eq_nil_of_length_eq_zero (by simp at hpa; omega)
    exact ro_2 op wi ba gr pa tx ma na ms.length mc ns.length nc bo pv 0 pc w
  · obtain rfl : ps = [] := List.eq_nil_of_length_eq_zero (by simp at hpa; omega)
    exact ro_3 op wi ba gr pa tx ma na ms.length mc ns.length nc bo pv 0 pc w
  · obtain rfl : pa = 1 := by simpa using hpa
    obtain ⟨p, rfl⟩ := List.length_eq_one_iff.1 (by omega : ps.length = 1)
    obtain ⟨b, o, rfl, hc, hp⟩ := one p rfl
    have e := o4 op wi ba gr tx ms ns bo p hp
    have h0 := ro_4 op wi ba gr 1 tx ma na ms.length mc ns.length nc bo b o 1 pc p _ _ w hc (Nat.le_refl _) hp rfl rfl
    rw [← e] at h0
    exact h0
  · obtain rfl : pa = 1 := by simpa using hpa
    obtain ⟨p, rfl⟩ := List.length_eq_one_iff.1 (by omega : ps.length = 1)
    obtain ⟨b, o, rfl, hc, hp⟩ := one p rfl
    have e := o5 op wi ba gr tx ms ns bo p hp
    have h0 := ro_5 op wi ba gr 1 tx ma na ms.length mc ns.length nc bo b o 1 pc p w hc (Nat.le_refl _) hp
    rw [← e] at h0
    exact h0
  · obtain rfl : pa = 2 := by simpa using hpa
    have hl2 : ps.length = 2 := by omega
    match ps, hl2 with
    | [p, q], _ =>
      obtain ⟨b, o, rfl, hc⟩ := h.at (by simp)
      have c0 := hc 0 p 0 _ rfl rfl
      have c1 := hc 1 q 0 _ rfl rfl
      have e := o6 op wi ba gr tx ms ns bo p q (ht p (by simp)) (ht q (by simp)) (hop rfl)
      have h0 := ro_6 op wi ba gr 2 tx ma na ms.length mc ns.length nc bo b o 2 pc p q _ _ _ _ w c0 c1 (Nat.le_refl _) (ht p (by simp)) (ht q (by simp)) rfl rfl rfl rfl
      rw [← e] at h0
      exact h0
  · obtain rfl : pa = 1 := by simpa using hpa
    obtain ⟨p, rfl⟩ := List.length_eq_one_iff.1 (by omega : ps.length = 1)
    obtain ⟨b, o, rfl, hc, hp⟩ := one p rfl
    have e := o7 op wi ba gr tx ms ns bo p hp
    have h0 := ro_7 op wi ba gr 1 tx ma na ms.length mc ns.length nc bo b o 1 pc p w hc (Nat.le_refl _) hp
    rw [← e] at h0
    exact h0
end Go.Proofs.YthbodkgcbfplgaaGreat
