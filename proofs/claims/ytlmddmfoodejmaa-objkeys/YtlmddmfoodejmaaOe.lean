/- Package obj: an object's bytes, read and laid; keys. -/
import Derived.Test.YtlmddmfoodejmaaOc
import Derived.Test.YtlmddmfoodejmaaMh
namespace Go.Proofs.Ytlmddmfoodejmaa
open Go.RowKit Go.Maps
set_option linter.unusedVariables false
set_option maxRecDepth 20000

/-- An object's data: a slice of the block b. -/
def DataAt (b : Nat) (w : World) (v : Option Addr) (N c : Nat) (d : List Int) : Prop := d.length = N ∧ Rd w v d ∧ N ≤ c ∧ ∃ o, v = some ⟨b, o, none⟩
theorem slice_low (w : World) (b L cap A : Nat) (h1 : A ≤ L) (h2 : L ≤ cap) : (Instr.slice 22 (.slice (some ⟨b, 0, none⟩) L cap) (some (.int .i64 (A : Int))) none none).run Try.prog w = .ok (.slice (if cap = A then some ⟨b, 0, none⟩ else some ⟨b, A, none⟩) (L - A) (cap - A)) w := by
  rw [run_slice_l w 22 _ L cap (by rw [elem22]; exact Try.underlying22) .i64 (A : Int) (by omega) (by omega), elem22, sz5]
  by_cases hc : cap = A
  · simp [Result.andThen, sliced, hc]
  · simp [Result.andThen, sliced, hc, Addr.add]
    intro e
    exact e.symm
theorem rd_low {w : World} {b : Nat} {xs ys : List Int} {cap A : Nat} (h : Rd w (some ⟨b, 0, none⟩) (xs ++ ys)) (hA : xs.length = A) (hc : xs.length + ys.length ≤ cap) : Rd w (if cap = A then some ⟨b, 0, none⟩ else some ⟨b, A, none⟩) ys := by
  refine ⟨?_, fun z hz => h.2 z (List.mem_append_right _ hz)⟩
  by_cases hy : ys = []
  · exact .inl hy
  · have hp : 0 < ys.length := List.length_pos_iff.2 hy
    obtain ⟨b', off, e, hcc⟩ := h.at (by simp; omega)
    cases e
    rw [if_neg (by omega)]
    refine .inr ⟨b, A, rfl, fun i hi => ?_⟩
    have := hcc (A + i) (by simp; omega)
    rw [Nat.zero_add] at this
    rw [this]
    congr 2
    rw [List.getD_eq_getElem?_getD, List.getElem?_append_right (by omega), List.getD_eq_getElem?_getD, hA, show A + i - A = i by omega]
set_option maxHeartbeats 4000000 in
theorem o_read (b L cap g : Nat) (d : List Int) (w : World) (hr : Rd w (some ⟨b, 0, none⟩) (objB g d)) (hL : (objB g d).length = L) (hcap : L ≤ cap) (hg1 : 1 ≤ g) (hg2 : g < 18446744073709551616) (hd : d.length ≤ 1048576) :
    Calls Try.prog 56 #[.slice (some ⟨b, 0, none⟩) L cap] w fun e w' => ∃ v N c, e = .returned (.agg #[.int .u64 (g : Int), .slice v N c]) ∧ DataAt b w' v N c d ∧ w.grownBy w' none := by
  have hfl := frame_enc_len g hg2
  obtain ⟨A, hA⟩ : ∃ A, A = (frameR (enc g)).length := ⟨_, rfl⟩
  obtain ⟨G, hG⟩ : ∃ G, G = (enc g).length := ⟨_, rfl⟩
  obtain ⟨D, hD⟩ : ∃ D, D = d.length := ⟨_, rfl⟩
  have hLA : L = A + D := by rw [← hL, objB, List.length_append, ← hA, hD]
  have HU : Hid (∀ w1, w.grownBy w1 none → Calls Try.prog 76 #[.slice (some ⟨b, 0, none⟩) L cap, .int .i64 0] w1 fun e w' => ∃ v N c, e = .returned (.tuple #[.slice v N c, .int .i64 (A : Int), .int .i64 0]) ∧ Out w1 w' v N c (enc g) ∧ w1.grownBy w' none) := fun w1 hg =>
    f_unframe (some ⟨b, 0, none⟩) (objB g d) L cap 0 (enc g) (A : Int) 0 w1 (hr.grown hg (by simp)) hL hcap (by omega) (by rw [hA]; exact read_frame g d hg2)
  have HI : Hid (∀ (v : Option Addr) (c : Nat) (w0 w1 w2 : World), Out w0 w1 v G c (enc g) → w1.grownBy w2 none → Calls Try.prog 77 #[.slice v G c, .int .i64 0] w2 fun e w' => e = .returned (.tuple #[.int .u64 (g : Int), .int .i64 (G : Int), .int .i64 0]) ∧ w2.grownBy w' none) := fun v c w0 w1 w2 ho hg => by
    have hel := enc_len g hg2
    exact f_uint v (enc g) G c 0 (g : Int) (G : Int) 0 w2 (ho.2.1.grown hg (by simp)) hG.symm ho.2.2.2.1 (by omega) (by rw [hG]; exact read_gen g hg2)
  have HSL : Hid (∀ w1, w.grownBy w1 none → DataAt b w1 (if cap = A then some ⟨b, 0, none⟩ else some ⟨b, A, none⟩) (L - A) (cap - A) d) := fun w1 hg =>
    ⟨by omega, (rd_low (cap := cap) hr hA.symm (by rw [← hA, ← hD]; omega)).grown hg (by simp), by omega, by split <;> exact ⟨_, rfl⟩⟩
  have hsl := fun w => slice_low w b L cap A (by omega) hcap
  have HOG : Hid (∀ (w0 w1 : World) v N c, Out w0 w1 v N c (enc g) → N = G) := fun w0 w1 v N c ho => by rw [hG]; exact ho.1.symm
  generalize (if cap = A then some (⟨b, 0, none⟩ : Addr) else some ⟨b, A, none⟩) = V at hsl HSL
  have q1 : ((g : Int) == 0) = false := by simp; omega
  have q2 : decide ((1048576 : Int) < (L : Int) - (A : Int)) = false := by simp; omega
  have hAL : A ≤ L := by omega
  have hL2 : L ≤ 1048601 := by omega
  clear hr hL hfl hA hG hD hd hg2 hLA
  go_enter Try.func56, Try.ntmps56
  go_wp2_with fail
  refine (HU.out _ (World.grownBy_alloc w _ none)).mono ?_
  rintro e w1 ⟨v, N, c, rfl, hO, hg⟩
  obtain rfl := HOG.out _ _ _ _ _ hO
  have HP : Hid (ObjAt w1 w.heap.size (.int .u64 0) (.slice none 0 0)) := (ObjAt.new w _ _).grown hg
  have HG1 : Hid (w.grownBy w1 none) := (World.grownBy_alloc w _ none).trans hg
  have HC := HI.out v c _ w1 w1 hO (World.grownBy.refl _ _)
  clear hg hO
  go_wp2_with fail
  refine HC.mono ?_
  rintro e w2 ⟨rfl, hg⟩
  have HP2 : Hid (ObjAt w2 w.heap.size (.int .u64 0) (.slice none 0 0)) := HP.out.grown hg
  have HG2 : Hid (w.grownBy w2 none) := HG1.out.trans hg
  have c0 := HP2.out.c0
  have c1 := HP2.out.c1
  have g0 := HP2.out.f0
  have g1 := HP2.out.f1
  clear hg HC HI HU
  go_wp2
  exact bodyPost_ret (results_cell Try.results56 _ _ _ _ _ rfl (HP2.out.set _ _).var) rfl ⟨V, L - A, cap - A, rfl, HSL.out _ (gb_pair HG2.out (Nat.le_refl _) _ _), gb_pair HG2.out (Nat.le_refl _) _ _⟩
end Go.Proofs.Ytlmddmfoodejmaa
