/- HaOne: the walk. (Printed by mk_jg.py.) -/
import Derived.Test.YtecnocdffhmkaaaDoorJf
namespace Go.Proofs.YtecnocdffhmkaaaDoor
open Go.RowKit
set_option linter.unusedVariables false
set_option maxRecDepth 20000

set_option maxHeartbeats 16000000 in
theorem haOne_walk (x : ByteArray) (S : Int) (a b : ByteArray) (now rf fo : Int) (w : World) (hx : x.size ≤ 140737488351232) (hS : -9223372036854775808 ≤ S ∧ S ≤ 9223372036854775807) (htab : Tab w) :
    Calls Tryd.prog 5 #[leadV x S, .string a, .string b, .int .i64 now, .int .i64 rf, .int .i64 fo] w fun e w' => e = .returned (.bool true) ∧ w.grownBy w' none := by
  obtain ⟨W, hW⟩ : ∃ W, w.alloc (.cells #[.string x, .int .i64 S] 32) = W := ⟨_, rfl⟩
  have HW : Hid (w.alloc (.cells #[.string x, .int .i64 S] 32) = W) := hW
  have HGW : Hid (w.grownBy W none) := hW ▸ World.grownBy_alloc w _ none
  have HB : Hid (W.heap[w.heap.size]? = some (.cells #[.string x, .int .i64 S] 32 (0, 0))) := by rw [← hW]; exact heap_alloc_new w _
  have HT : Hid (Tab w) := htab
  have HAW : Hid (∀ w1, w.grownBy w1 none → Calls Tryd.prog 13 #[] w1 fun e w' => e = .returned (.bool true) ∧ w1.grownBy w' none) := fun w1 hg => h_awake w1 (HT.out.grown hg)
  have HEN : Hid (∀ w1, Calls Tryd.prog 19 #[leadV x S] w1 fun e w' => ∃ g c M, e = .returned (.slice (some ⟨g, 0, none⟩) M c) ∧ Hid (Own w' w1.heap.size g M c (leadR x S)) ∧ Hid (w1.grownBy w' none)) := fun w1 => f_encodeL x S w1 hx hS
  have HLR : (leadR x S).length ≤ 140737488355000 := by
    have h1 := enc_len x.size (by omega)
    have h2 := enc_len (zz S).toNat (by have := zz_bd S hS; omega)
    rw [leadR, List.length_append, List.length_append, sInts_len]
    omega
  have HDE : Hid (∀ (w0 w1 : World) (g c M : Nat), Hid (Own w1 w0.heap.size g M c (leadR x S)) → Calls Tryd.prog 16 #[.slice (some ⟨g, 0, none⟩) M c] w1 fun e w' => e = .returned (leadT x S 0) ∧ w1.grownBy w' none) := fun w0 w1 g c M ho => f_decodeL (some ⟨g, 0, none⟩) _ M c x S 0 w1 ho.out.rd ho.out.len ho.out.cap.1 (by have := ho.out.len; omega) (lead_back x S (by omega) hS)
  obtain ⟨x0, x1⟩ := cell2 HB.out
  clear hW htab hx hS HLR
  go_enter Tryd.func5, Tryd.ntmps5
  go_upto_region 1 with fail
  rw [HW.out]
  by_cases b1 : S < -1099511627776
  · have r1 : decide (S < -1099511627776) = true := by simpa using b1
    clear b1
    go_wp2_with (go_at_call 13; refine (HAW.out _ HGW.out).mono ?_; rintro e w9 ⟨rfl, hg9⟩)
    go_ret
    exact ⟨rfl, HGW.out.trans hg9⟩
  · have r1 : decide (S < -1099511627776) = false := by simpa using b1
    by_cases b2 : 1099511627776 < S
    · have r2 : decide (1099511627776 < S) = true := by simpa using b2
      clear b1 b2
      go_wp2_with (go_at_call 13; refine (HAW.out _ HGW.out).mono ?_; rintro e w9 ⟨rfl, hg9⟩)
      go_ret
      exact ⟨rfl, HGW.out.trans hg9⟩
    · have r2 : decide (1099511627776 < S) = false := by simpa using b2
      by_cases b3 : now < -1099511627776
      · have r3 : decide (now < -1099511627776) = true := by simpa using b3
        clear b1 b2 b3
        go_wp2_with (go_at_call 13; refine (HAW.out _ HGW.out).mono ?_; rintro e w9 ⟨rfl, hg9⟩)
        go_ret
        exact ⟨rfl, HGW.out.trans hg9⟩
      · have r3 : decide (now < -1099511627776) = false := by simpa using b3
        by_cases b4 : 1099511627776 < now
        · have r4 : decide (1099511627776 < now) = true := by simpa using b4
          clear b1 b2 b3 b4
          go_wp2_with (go_at_call 13; refine (HAW.out _ HGW.out).mono ?_; rintro e w9 ⟨rfl, hg9⟩)
          go_ret
          exact ⟨rfl, HGW.out.trans hg9⟩
        · have r4 : decide (1099511627776 < now) = false := by simpa using b4
          obtain ⟨G, hG⟩ : ∃ G : ByteArray → Int, (fun r => decR true x r (now - S) rf fo) = G := ⟨_, rfl⟩
          have HDC : Hid (∀ (r : ByteArray) (u : World), Calls Tryd.prog 23 #[.bool true, leadV x S, .string r, .int .i64 now, .int .i64 rf, .int .i64 fo] u fun e w' => e = .returned (.int .i64 (G r)) ∧ u.grownBy w' none) := fun r u => f_decide true x r S now rf fo (G r) u (by omega) (by omega) (by rw [← hG])
          have bS1 : -1099511627776 ≤ S := by omega
          have bS2 : S ≤ 1099511627776 := by omega
          have bn1 : -1099511627776 ≤ now := by omega
          have bn2 : now ≤ 1099511627776 := by omega
          have hP0 : decR true x a (now - S) rf fo = G a := by rw [← hG]
          have hQ0 : decR true x b (now - S) rf fo = G b := by rw [← hG]
          have hO0 : decR true x x (now - S) rf fo = G x := by rw [← hG]
          have HPQ : Hid (decR true x a (now - S) rf fo = G a ∧ decR true x b (now - S) rf fo = G b ∧ decR true x x (now - S) rf fo = G x) := ⟨hP0, hQ0, hO0⟩
          clear b1 b2 b3 b4 hG hP0 hQ0 hO0
          go_wp2_with fail
          have e0 : ∀ p9 : Gb W, p9.w'.cell? ⟨w.heap.size, 0, none⟩ = some (.string x) := Gb.cell x0
          have e1 : ∀ p9 : Gb W, p9.w'.cell? ⟨w.heap.size, 1, none⟩ = some (.int .i64 S) := Gb.cell x1
          clear x0 x1
          refine wp_region_gb (by kernel_rfl) (by kernel_rfl) ?_
          repeat ((with_reducible refine wpQuiet_step (fun K hK => ?_)); go_simp; first | (refine hK _ ?_; clear hK K) | (apply Exists.intro; refine ⟨fun _ => ?_, hK _ ?_⟩; (go_at_call 23; exact gb_call (HDC.out _ _)); clear hK K))
          with_reducible refine wpQuiet_nil ?_
          rintro wq ⟨p9, hp9⟩
          have hq : W.grownBy wq none := hp9 ▸ p9.h
          clear hp9
          clear p9
          clear e0 e1
          have HGQ : Hid (w.grownBy wq none) := HGW.out.trans hq
          have HBQ : Hid (wq.heap[w.heap.size]? = some (.cells #[.string x, .int .i64 S] 32 (0, 0))) := (hq.block _ (Array.getElem?_eq_some_iff.1 HB.out).1 (by simp)).trans HB.out
          clear hq
          have HDO : Hid (∀ u, w.grownBy u none → Calls Tryd.prog 23 #[.bool true, leadV x S, .string x, .int .i64 now, .int .i64 rf, .int .i64 fo] u fun e w' => e = .returned (.int .i64 (G x)) ∧ u.grownBy w' none) := fun u _ => HDC.out x u
          clear HDC
          generalize G a = P at HPQ ⊢
          generalize G b = Qv at HPQ ⊢
          generalize G x = O at HPQ HDO
          clear G
          obtain ⟨x0, x1⟩ := cell2 HBQ.out
          go_wp2_with fail
          refine (HEN.out wq).mono ?_
          rintro e w3 ⟨g3, c3, M3, rfl, HO3, HG3⟩
          go_wp2_with fail
          refine (HDE.out _ w3 g3 c3 M3 HO3).mono ?_
          rintro e w4 ⟨rfl, hg4⟩
          have HG4 : Hid (wq.grownBy w4 none) := HG3.out.trans hg4
          clear hg4
          obtain ⟨W5, hW5⟩ : ∃ W5, w4.alloc (.cells #[.string x, .int .i64 S] 32) = W5 := ⟨_, rfl⟩
          have HW5 : Hid (w4.alloc (.cells #[.string x, .int .i64 S] 32) = W5) := hW5
          have HGA : Hid (w.grownBy W5 none) := (HGQ.out.trans HG4.out).trans (hW5 ▸ World.grownBy_alloc w4 _ none)
          have y0 : W5.cell? ⟨w4.heap.size, 0, none⟩ = some (.string x) := by rw [← hW5, cell_of_row _ w4.heap.size 0 _ _ _ (heap_alloc_new w4 _)]; rfl
          have y1 : W5.cell? ⟨w4.heap.size, 1, none⟩ = some (.int .i64 S) := by rw [← hW5, cell_of_row _ w4.heap.size 1 _ _ _ (heap_alloc_new w4 _)]; rfl
          have v0 : W5.cell? ⟨w.heap.size, 0, none⟩ = some (.string x) := by rw [← hW5]; exact (HG4.out.trans (World.grownBy_alloc w4 _ none)).cell x0 (by simp)
          have v1 : W5.cell? ⟨w.heap.size, 1, none⟩ = some (.int .i64 S) := by rw [← hW5]; exact (HG4.out.trans (World.grownBy_alloc w4 _ none)).cell x1 (by simp)
          clear hW5 x0 x1
          go_upto_region 5 with fail
          rw [HW5.out]
          have hq0 : ∀ u, (binOp .neq 32 (.agg #[.string x, .int .i64 S]) (.agg #[.string x, .int .i64 S])).run Tryd.prog u = .ok (.bool false) u := fun u => by rw [neq32]; simp
          obtain ⟨hP, hQ, hO⟩ := HPQ.out
          clear HPQ r1 r2 r3 r4 HEN HDE
          by_cases ha : x = a
          · by_cases hb : x = b
            · by_cases hrf : rf ≤ now - S
              · by_cases hfo : fo ≤ now - S
                · have ep : P = 1 := by rw [← hP]; simp [decR, ha, hrf]
                  have eq : Qv = 1 := by rw [← hQ]; simp [decR, hb, hrf]
                  have eo : O = 1 := by rw [← hO]; simp [decR, hrf]
                  subst ep eq eo
                  have hax := str_eq a x
                  rw [decide_eq_true ha.symm] at hax
                  have hab := str_eq a b
                  rw [decide_eq_true (ha.symm.trans hb)] at hab
                  have hab' : (a.toList != b.toList) = false := by simp [bne, hab]
                  have r5 : decide (rf ≤ now - S) = true := by simpa using hrf
                  have r6 : decide (fo ≤ now - S) = true := by simpa using hfo
                  clear ha hb hrf hfo hP hQ hO
                  go_wp2_with fail
                  refine (HDO.out _ HGA.out).mono ?_
                  rintro e w7 ⟨rfl, hg7⟩
                  have HG7 : Hid (w.grownBy w7 none) := HGA.out.trans hg7
                  have u0 := hg7.cell v0 (by simp)
                  have u1 := hg7.cell v1 (by simp)
                  clear hg7
                  go_wp2_with fail
                  refine (HAW.out _ HG7.out).mono ?_
                  rintro e w8 ⟨rfl, hg8⟩
                  go_wp2
                  go_ret
                  exact ⟨rfl, HG7.out.trans hg8⟩
                · have ep : P = 1 := by rw [← hP]; simp [decR, ha, hrf]
                  have eq : Qv = 1 := by rw [← hQ]; simp [decR, hb, hrf]
                  have eo : O = 1 := by rw [← hO]; simp [decR, hrf]
                  subst ep eq eo
                  have hax := str_eq a x
                  rw [decide_eq_true ha.symm] at hax
                  have hab := str_eq a b
                  rw [decide_eq_true (ha.symm.trans hb)] at hab
                  have hab' : (a.toList != b.toList) = false := by simp [bne, hab]
                  have r5 : decide (rf ≤ now - S) = true := by simpa using hrf
                  have r6 : decide (fo ≤ now - S) = false := by simpa using hfo
                  clear ha hb hrf hfo hP hQ hO
                  go_wp2_with fail
                  refine (HDO.out _ HGA.out).mono ?_
                  rintro e w7 ⟨rfl, hg7⟩
                  have HG7 : Hid (w.grownBy w7 none) := HGA.out.trans hg7
                  have u0 := hg7.cell v0 (by simp)
                  have u1 := hg7.cell v1 (by simp)
                  clear hg7
                  go_wp2_with fail
                  refine (HAW.out _ HG7.out).mono ?_
                  rintro e w8 ⟨rfl, hg8⟩
                  go_wp2
                  go_ret
                  exact ⟨rfl, HG7.out.trans hg8⟩
              · by_cases hfo : fo ≤ now - S
                · have ep : P = 0 := by rw [← hP]; simp [decR, ha, hrf]
                  have eq : Qv = 0 := by rw [← hQ]; simp [decR, hb, hrf]
                  have eo : O = 0 := by rw [← hO]; simp [decR, hrf]
                  subst ep eq eo
                  have hax := str_eq a x
                  rw [decide_eq_true ha.symm] at hax
                  have hab := str_eq a b
                  rw [decide_eq_true (ha.symm.trans hb)] at hab
                  have hab' : (a.toList != b.toList) = false := by simp [bne, hab]
                  have r5 : decide (rf ≤ now - S) = false := by simpa using hrf
                  have r6 : decide (fo ≤ now - S) = true := by simpa using hfo
                  clear ha hb hrf hfo hP hQ hO
                  go_wp2_with fail
                  refine (HDO.out _ HGA.out).mono ?_
                  rintro e w7 ⟨rfl, hg7⟩
                  have HG7 : Hid (w.grownBy w7 none) := HGA.out.trans hg7
                  have u0 := hg7.cell v0 (by simp)
                  have u1 := hg7.cell v1 (by simp)
                  clear hg7
                  go_wp2_with fail
                  refine (HAW.out _ HG7.out).mono ?_
                  rintro e w8 ⟨rfl, hg8⟩
                  go_wp2
                  go_ret
                  exact ⟨rfl, HG7.out.trans hg8⟩
                · have ep : P = 0 := by rw [← hP]; simp [decR, ha, hrf]
                  have eq : Qv = 0 := by rw [← hQ]; simp [decR, hb, hrf]
                  have eo : O = 0 := by rw [← hO]; simp [decR, hrf]
                  subst ep eq eo
                  have hax := str_eq a x
                  rw [decide_eq_true ha.symm] at hax
                  have hab := str_eq a b
                  rw [decide_eq_true (ha.symm.trans hb)] at hab
                  have hab' : (a.toList != b.toList) = false := by simp [bne, hab]
                  have r5 : decide (rf ≤ now - S) = false := by simpa using hrf
                  have r6 : decide (fo ≤ now - S) = false := by simpa using hfo
                  clear ha hb hrf hfo hP hQ hO
                  go_wp2_with fail
                  refine (HDO.out _ HGA.out).mono ?_
                  rintro e w7 ⟨rfl, hg7⟩
                  have HG7 : Hid (w.grownBy w7 none) := HGA.out.trans hg7
                  have u0 := hg7.cell v0 (by simp)
                  have u1 := hg7.cell v1 (by simp)
                  clear hg7
                  go_wp2_with fail
                  refine (HAW.out _ HG7.out).mono ?_
                  rintro e w8 ⟨rfl, hg8⟩
                  go_wp2
                  go_ret
                  exact ⟨rfl, HG7.out.trans hg8⟩
            · by_cases hrf : rf ≤ now - S
              · by_cases hfo : fo ≤ now - S
                · have ep : P = 1 := by rw [← hP]; simp [decR, ha, hrf]
                  have eq : Qv = 2 := by rw [← hQ]; simp [decR, hb, hfo]
                  have eo : O = 1 := by rw [← hO]; simp [decR, hrf]
                  subst ep eq eo
                  have hax := str_eq a x
                  rw [decide_eq_true ha.symm] at hax
                  have r5 : decide (rf ≤ now - S) = true := by simpa using hrf
                  have r6 : decide (fo ≤ now - S) = true := by simpa using hfo
                  clear ha hb hrf hfo hP hQ hO
                  go_wp2_with fail
                  refine (HDO.out _ HGA.out).mono ?_
                  rintro e w7 ⟨rfl, hg7⟩
                  have HG7 : Hid (w.grownBy w7 none) := HGA.out.trans hg7
                  have u0 := hg7.cell v0 (by simp)
                  have u1 := hg7.cell v1 (by simp)
                  clear hg7
                  go_wp2_with fail
                  refine (HAW.out _ HG7.out).mono ?_
                  rintro e w8 ⟨rfl, hg8⟩
                  go_wp2
                  go_ret
                  exact ⟨rfl, HG7.out.trans hg8⟩
                · have ep : P = 1 := by rw [← hP]; simp [decR, ha, hrf]
                  have eq : Qv = 3 := by rw [← hQ]; simp [decR, hb, hfo]
                  have eo : O = 1 := by rw [← hO]; simp [decR, hrf]
                  subst ep eq eo
                  have hax := str_eq a x
                  rw [decide_eq_true ha.symm] at hax
                  have r5 : decide (rf ≤ now - S) = true := by simpa using hrf
                  have r6 : decide (fo ≤ now - S) = false := by simpa using hfo
                  clear ha hb hrf hfo hP hQ hO
                  go_wp2_with fail
                  refine (HDO.out _ HGA.out).mono ?_
                  rintro e w7 ⟨rfl, hg7⟩
                  have HG7 : Hid (w.grownBy w7 none) := HGA.out.trans hg7
                  have u0 := hg7.cell v0 (by simp)
                  have u1 := hg7.cell v1 (by simp)
                  clear hg7
                  go_wp2_with fail
                  refine (HAW.out _ HG7.out).mono ?_
                  rintro e w8 ⟨rfl, hg8⟩
                  go_wp2
                  go_ret
                  exact ⟨rfl, HG7.out.trans hg8⟩
              · by_cases hfo : fo ≤ now - S
                · have ep : P = 0 := by rw [← hP]; simp [decR, ha, hrf]
                  have eq : Qv = 2 := by rw [← hQ]; simp [decR, hb, hfo]
                  have eo : O = 0 := by rw [← hO]; simp [decR, hrf]
                  subst ep eq eo
                  have hax := str_eq a x
                  rw [decide_eq_true ha.symm] at hax
                  have r5 : decide (rf ≤ now - S) = false := by simpa using hrf
                  have r6 : decide (fo ≤ now - S) = true := by simpa using hfo
                  clear ha hb hrf hfo hP hQ hO
                  go_wp2_with fail
                  refine (HDO.out _ HGA.out).mono ?_
                  rintro e w7 ⟨rfl, hg7⟩
                  have HG7 : Hid (w.grownBy w7 none) := HGA.out.trans hg7
                  have u0 := hg7.cell v0 (by simp)
                  have u1 := hg7.cell v1 (by simp)
                  clear hg7
                  go_wp2_with fail
                  refine (HAW.out _ HG7.out).mono ?_
                  rintro e w8 ⟨rfl, hg8⟩
                  go_wp2
                  go_ret
                  exact ⟨rfl, HG7.out.trans hg8⟩
                · have ep : P = 0 := by rw [← hP]; simp [decR, ha, hrf]
                  have eq : Qv = 3 := by rw [← hQ]; simp [decR, hb, hfo]
                  have eo : O = 0 := by rw [← hO]; simp [decR, hrf]
                  subst ep eq eo
                  have hax := str_eq a x
                  rw [decide_eq_true ha.symm] at hax
                  have r5 : decide (rf ≤ now - S) = false := by simpa using hrf
                  have r6 : decide (fo ≤ now - S) = false := by simpa using hfo
                  clear ha hb hrf hfo hP hQ hO
                  go_wp2_with fail
                  refine (HDO.out _ HGA.out).mono ?_
                  rintro e w7 ⟨rfl, hg7⟩
                  have HG7 : Hid (w.grownBy w7 none) := HGA.out.trans hg7
                  have u0 := hg7.cell v0 (by simp)
                  have u1 := hg7.cell v1 (by simp)
                  clear hg7
                  go_wp2_with fail
                  refine (HAW.out _ HG7.out).mono ?_
                  rintro e w8 ⟨rfl, hg8⟩
                  go_wp2
                  go_ret
                  exact ⟨rfl, HG7.out.trans hg8⟩
          · by_cases hb : x = b
            · by_cases hrf : rf ≤ now - S
              · by_cases hfo : fo ≤ now - S
                · have ep : P = 2 := by rw [← hP]; simp [decR, ha, hfo]
                  have eq : Qv = 1 := by rw [← hQ]; simp [decR, hb, hrf]
                  have eo : O = 1 := by rw [← hO]; simp [decR, hrf]
                  subst ep eq eo
                  have hax := str_eq a x
                  rw [decide_eq_false (fun h => ha h.symm)] at hax
                  have r5 : decide (rf ≤ now - S) = true := by simpa using hrf
                  have r6 : decide (fo ≤ now - S) = true := by simpa using hfo
                  clear ha hb hrf hfo hP hQ hO
                  go_wp2_with fail
                  refine (HDO.out _ HGA.out).mono ?_
                  rintro e w7 ⟨rfl, hg7⟩
                  have HG7 : Hid (w.grownBy w7 none) := HGA.out.trans hg7
                  have u0 := hg7.cell v0 (by simp)
                  have u1 := hg7.cell v1 (by simp)
                  clear hg7
                  go_wp2_with fail
                  refine (HAW.out _ HG7.out).mono ?_
                  rintro e w8 ⟨rfl, hg8⟩
                  go_wp2
                  go_ret
                  exact ⟨rfl, HG7.out.trans hg8⟩
                · have ep : P = 3 := by rw [← hP]; simp [decR, ha, hfo]
                  have eq : Qv = 1 := by rw [← hQ]; simp [decR, hb, hrf]
                  have eo : O = 1 := by rw [← hO]; simp [decR, hrf]
                  subst ep eq eo
                  have hax := str_eq a x
                  rw [decide_eq_false (fun h => ha h.symm)] at hax
                  have r5 : decide (rf ≤ now - S) = true := by simpa using hrf
                  have r6 : decide (fo ≤ now - S) = false := by simpa using hfo
                  clear ha hb hrf hfo hP hQ hO
                  go_wp2_with fail
                  refine (HDO.out _ HGA.out).mono ?_
                  rintro e w7 ⟨rfl, hg7⟩
                  have HG7 : Hid (w.grownBy w7 none) := HGA.out.trans hg7
                  have u0 := hg7.cell v0 (by simp)
                  have u1 := hg7.cell v1 (by simp)
                  clear hg7
                  go_wp2_with fail
                  refine (HAW.out _ HG7.out).mono ?_
                  rintro e w8 ⟨rfl, hg8⟩
                  go_wp2
                  go_ret
                  exact ⟨rfl, HG7.out.trans hg8⟩
              · by_cases hfo : fo ≤ now - S
                · have ep : P = 2 := by rw [← hP]; simp [decR, ha, hfo]
                  have eq : Qv = 0 := by rw [← hQ]; simp [decR, hb, hrf]
                  have eo : O = 0 := by rw [← hO]; simp [decR, hrf]
                  subst ep eq eo
                  have hax := str_eq a x
                  rw [decide_eq_false (fun h => ha h.symm)] at hax
                  have r5 : decide (rf ≤ now - S) = false := by simpa using hrf
                  have r6 : decide (fo ≤ now - S) = true := by simpa using hfo
                  clear ha hb hrf hfo hP hQ hO
                  go_wp2_with fail
                  refine (HDO.out _ HGA.out).mono ?_
                  rintro e w7 ⟨rfl, hg7⟩
                  have HG7 : Hid (w.grownBy w7 none) := HGA.out.trans hg7
                  have u0 := hg7.cell v0 (by simp)
                  have u1 := hg7.cell v1 (by simp)
                  clear hg7
                  go_wp2_with fail
                  refine (HAW.out _ HG7.out).mono ?_
                  rintro e w8 ⟨rfl, hg8⟩
                  go_wp2
                  go_ret
                  exact ⟨rfl, HG7.out.trans hg8⟩
                · have ep : P = 3 := by rw [← hP]; simp [decR, ha, hfo]
                  have eq : Qv = 0 := by rw [← hQ]; simp [decR, hb, hrf]
                  have eo : O = 0 := by rw [← hO]; simp [decR, hrf]
                  subst ep eq eo
                  have hax := str_eq a x
                  rw [decide_eq_false (fun h => ha h.symm)] at hax
                  have r5 : decide (rf ≤ now - S) = false := by simpa using hrf
                  have r6 : decide (fo ≤ now - S) = false := by simpa using hfo
                  clear ha hb hrf hfo hP hQ hO
                  go_wp2_with fail
                  refine (HDO.out _ HGA.out).mono ?_
                  rintro e w7 ⟨rfl, hg7⟩
                  have HG7 : Hid (w.grownBy w7 none) := HGA.out.trans hg7
                  have u0 := hg7.cell v0 (by simp)
                  have u1 := hg7.cell v1 (by simp)
                  clear hg7
                  go_wp2_with fail
                  refine (HAW.out _ HG7.out).mono ?_
                  rintro e w8 ⟨rfl, hg8⟩
                  go_wp2
                  go_ret
                  exact ⟨rfl, HG7.out.trans hg8⟩
            · by_cases hrf : rf ≤ now - S
              · by_cases hfo : fo ≤ now - S
                · have ep : P = 2 := by rw [← hP]; simp [decR, ha, hfo]
                  have eq : Qv = 2 := by rw [← hQ]; simp [decR, hb, hfo]
                  have eo : O = 1 := by rw [← hO]; simp [decR, hrf]
                  subst ep eq eo
                  have hax := str_eq a x
                  rw [decide_eq_false (fun h => ha h.symm)] at hax
                  have r5 : decide (rf ≤ now - S) = true := by simpa using hrf
                  have r6 : decide (fo ≤ now - S) = true := by simpa using hfo
                  clear ha hb hrf hfo hP hQ hO
                  go_wp2_with fail
                  refine (HDO.out _ HGA.out).mono ?_
                  rintro e w7 ⟨rfl, hg7⟩
                  have HG7 : Hid (w.grownBy w7 none) := HGA.out.trans hg7
                  have u0 := hg7.cell v0 (by simp)
                  have u1 := hg7.cell v1 (by simp)
                  clear hg7
                  go_wp2_with fail
                  refine (HAW.out _ HG7.out).mono ?_
                  rintro e w8 ⟨rfl, hg8⟩
                  go_wp2
                  go_ret
                  exact ⟨rfl, HG7.out.trans hg8⟩
                · have ep : P = 3 := by rw [← hP]; simp [decR, ha, hfo]
                  have eq : Qv = 3 := by rw [← hQ]; simp [decR, hb, hfo]
                  have eo : O = 1 := by rw [← hO]; simp [decR, hrf]
                  subst ep eq eo
                  have hax := str_eq a x
                  rw [decide_eq_false (fun h => ha h.symm)] at hax
                  have r5 : decide (rf ≤ now - S) = true := by simpa using hrf
                  have r6 : decide (fo ≤ now - S) = false := by simpa using hfo
                  clear ha hb hrf hfo hP hQ hO
                  go_wp2_with fail
                  refine (HDO.out _ HGA.out).mono ?_
                  rintro e w7 ⟨rfl, hg7⟩
                  have HG7 : Hid (w.grownBy w7 none) := HGA.out.trans hg7
                  have u0 := hg7.cell v0 (by simp)
                  have u1 := hg7.cell v1 (by simp)
                  clear hg7
                  go_wp2_with fail
                  refine (HAW.out _ HG7.out).mono ?_
                  rintro e w8 ⟨rfl, hg8⟩
                  go_wp2
                  go_ret
                  exact ⟨rfl, HG7.out.trans hg8⟩
              · by_cases hfo : fo ≤ now - S
                · have ep : P = 2 := by rw [← hP]; simp [decR, ha, hfo]
                  have eq : Qv = 2 := by rw [← hQ]; simp [decR, hb, hfo]
                  have eo : O = 0 := by rw [← hO]; simp [decR, hrf]
                  subst ep eq eo
                  have hax := str_eq a x
                  rw [decide_eq_false (fun h => ha h.symm)] at hax
                  have r5 : decide (rf ≤ now - S) = false := by simpa using hrf
                  have r6 : decide (fo ≤ now - S) = true := by simpa using hfo
                  clear ha hb hrf hfo hP hQ hO
                  go_wp2_with fail
                  refine (HDO.out _ HGA.out).mono ?_
                  rintro e w7 ⟨rfl, hg7⟩
                  have HG7 : Hid (w.grownBy w7 none) := HGA.out.trans hg7
                  have u0 := hg7.cell v0 (by simp)
                  have u1 := hg7.cell v1 (by simp)
                  clear hg7
                  go_wp2_with fail
                  refine (HAW.out _ HG7.out).mono ?_
                  rintro e w8 ⟨rfl, hg8⟩
                  go_wp2
                  go_ret
                  exact ⟨rfl, HG7.out.trans hg8⟩
                · have ep : P = 3 := by rw [← hP]; simp [decR, ha, hfo]
                  have eq : Qv = 3 := by rw [← hQ]; simp [decR, hb, hfo]
                  have eo : O = 0 := by rw [← hO]; simp [decR, hrf]
                  subst ep eq eo
                  have hax := str_eq a x
                  rw [decide_eq_false (fun h => ha h.symm)] at hax
                  have r5 : decide (rf ≤ now - S) = false := by simpa using hrf
                  have r6 : decide (fo ≤ now - S) = false := by simpa using hfo
                  clear ha hb hrf hfo hP hQ hO
                  go_wp2_with fail
                  refine (HDO.out _ HGA.out).mono ?_
                  rintro e w7 ⟨rfl, hg7⟩
                  have HG7 : Hid (w.grownBy w7 none) := HGA.out.trans hg7
                  have u0 := hg7.cell v0 (by simp)
                  have u1 := hg7.cell v1 (by simp)
                  clear hg7
                  go_wp2_with fail
                  refine (HAW.out _ HG7.out).mono ?_
                  rintro e w8 ⟨rfl, hg8⟩
                  go_wp2
                  go_ret
                  exact ⟨rfl, HG7.out.trans hg8⟩
end Go.Proofs.YtecnocdffhmkaaaDoor
