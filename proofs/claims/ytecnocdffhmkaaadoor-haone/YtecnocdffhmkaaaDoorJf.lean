/- HaDecides: the walk. (Printed by mk_jf.py.) -/
import Derived.Test.YtecnocdffhmkaaaDoorJc
import Derived.Deep.CutRange
import Derived.Deep.Cut
namespace Go.Proofs.YtecnocdffhmkaaaDoor
open Go.RowKit
set_option linter.unusedVariables false
set_option maxRecDepth 20000

theorem cell2 {w : World} {g : Nat} {x y : Value} {t : TypeId} (h : w.heap[g]? = some (.cells #[x, y] t (0, 0))) : w.cell? ⟨g, 0, none⟩ = some x ∧ w.cell? ⟨g, 1, none⟩ = some y := by
  refine ⟨?_, ?_⟩
  · rw [cell_of_row w g 0 _ _ _ h]; rfl
  · rw [cell_of_row w g 1 _ _ _ h]; rfl
set_option maxHeartbeats 8000000 in
theorem haDecides_walk (has : Bool) (x : ByteArray) (S : Int) (rep : ByteArray) (now rf fo : Int) (a : Option Addr) (zs : List Int) (L cap : Nat) (t : ByteArray) (w : World) (hx : x.size ≤ 140737488351232) (hS : -9223372036854775808 ≤ S ∧ S ≤ 9223372036854775807) (hrep : rep.size ≤ 140737488351232) (ht : t.size ≤ 140737488351232) (hr : Rd w a zs) (hL : zs.length = L) (hnil : a = none → cap = 0) (hz : L ≤ 140737488351232) (hcap : L ≤ cap) (htab : Tab w) :
    Calls Tryd.prog 4 #[.bool has, leadV x S, .string rep, .int .i64 now, .int .i64 rf, .int .i64 fo, .slice a L cap, .string t] w fun e w' => e = .returned (.bool true) ∧ w.grownBy w' none := by
  obtain ⟨y, T, Cd, hD⟩ : ∃ y T Cd, leadD zs = (y, T, Cd) := ⟨_, _, _, rfl⟩
  obtain ⟨W, hW⟩ : ∃ W, w.alloc (.cells #[.string x, .int .i64 S] 32) = W := ⟨_, rfl⟩
  have HW : Hid (w.alloc (.cells #[.string x, .int .i64 S] 32) = W) := hW
  have HGW : Hid (w.grownBy W none) := hW ▸ World.grownBy_alloc w _ none
  have HB9 : Hid (W.heap[w.heap.size]? = some (.cells #[.string x, .int .i64 S] 32 (0, 0))) := by rw [← hW]; exact heap_alloc_new w _
  have HRD : Hid (Calls Tryd.prog 14 #[.slice a L cap] W fun e w' => e = .returned (leadT y T Cd) ∧ W.grownBy w' none) := r_decodeL a zs L cap y T Cd W (hr.grown HGW.out (by simp)) hL hcap (by omega) hD
  have HLN : Hid (∀ u, W.grownBy u none → Calls Tryd.prog 15 #[.slice a L cap] u fun e w' => ∃ g c, e = .returned (.slice (some ⟨g, 0, none⟩) L c) ∧ Hid (Own w' u.heap.size g (L + 2) c (zs ++ [201, 201])) ∧ Hid (u.grownBy w' none)) := fun u hg => by
    have h := lend_any a zs cap u (hr.grown (HGW.out.trans hg) (by simp)) hnil (by omega)
    rw [hL] at h
    exact h.mono fun e w' ⟨g, c, h1, h2, h3⟩ => ⟨g, c, h1, h2, h3⟩
  have HFD : Hid (∀ (u0 u : World) (g c : Nat), Hid (Own u u0.heap.size g (L + 2) c (zs ++ [201, 201])) → Calls Tryd.prog 16 #[.slice (some ⟨g, 0, none⟩) L c] u fun e w' => e = .returned (leadT y T Cd) ∧ u.grownBy w' none) := fun u0 u g c ho => f_decodeL _ zs L c y T Cd u (ho.out.headR (by simp; omega)) hL (by have := ho.out.cap.1; omega) (by omega) hD
  have HRB : Hid (∀ u, w.grownBy u none → Rd u a zs) := fun u hg => hr.grown hg (by simp)
  have HKP : Hid (∀ (u : World) (base g c : Nat), Rd u a zs → Own u base g (L + 2) c (zs ++ [201, 201]) → Calls Tryd.prog 17 #[.slice (some ⟨g, 0, none⟩) L c, .slice a L cap] u fun e w' => e = .returned (.bool true) ∧ u.grownBy w' (some g)) := fun u base g c h1 h2 => by
    have h := kept_any a zs base g c cap u h1 (by rw [hL]; exact h2) (by omega)
    rw [hL] at h
    exact h
  have HT : Hid (Tab w) := htab
  have HAW : Hid (∀ w1, w.grownBy w1 none → Calls Tryd.prog 13 #[] w1 fun e w' => e = .returned (.bool true) ∧ w1.grownBy w' none) := fun w1 hg => h_awake w1 (HT.out.grown hg)
  have HXS : Hid (x.size ≤ 140737488351232) := hx
  have HSB : Hid (-9223372036854775808 ≤ S ∧ S ≤ 9223372036854775807) := hS
  have HKF : Hid (∀ u, w.grownBy u none → Calls Tryd.prog 21 #[.string t, .string rep] u fun e w' => e = .returned (.string (keyR t rep)) ∧ u.grownBy w' none) := fun u hg => f_key t rep u ht hrep (HT.out.grown hg)
  have HKR : Hid (∀ u, w.grownBy u none → Calls Tryd.prog 22 #[.string t, .string rep] u fun e w' => e = .returned (.string (keyR t rep)) ∧ u.grownBy w' none) := fun u hg => r_key t rep u ht hrep
  generalize keyR t rep = K at HKF HKR
  clear hW hr hL hnil hcap htab hD hx hS ht hrep
  go_enter Tryd.func4, Tryd.ntmps4
  go_upto_region 1 with fail
  rw [HW.out]
  go_wp2_with fail
  refine HRD.out.mono ?_
  rintro e w1 ⟨rfl, hg1⟩
  have HG1 : Hid (W.grownBy w1 none) := hg1
  clear hg1
  obtain ⟨W1, hW1⟩ : ∃ W1, w1.alloc (.cells #[.string y, .int .i64 T] 32) = W1 := ⟨_, rfl⟩
  have HW1 : Hid (w1.alloc (.cells #[.string y, .int .i64 T] 32) = W1) := hW1
  have HGW1 : Hid (w1.grownBy W1 none) := hW1 ▸ World.grownBy_alloc w1 _ none
  have HB17 : Hid (W1.heap[w1.heap.size]? = some (.cells #[.string y, .int .i64 T] 32 (0, 0))) := by rw [← hW1]; exact heap_alloc_new w1 _
  clear hW1
  go_upto_region 2 with fail
  rw [HW1.out]
  go_wp2_with fail
  refine (HLN.out W1 (HG1.out.trans HGW1.out)).mono ?_
  rintro e w2 ⟨g, c2, rfl, HO2, HG2⟩
  go_wp2_with fail
  refine (HFD.out _ w2 g c2 HO2).mono ?_
  rintro e w3 ⟨rfl, hg3⟩
  have HG3 : Hid (w2.grownBy w3 none) := hg3
  clear hg3
  obtain ⟨V, hV⟩ : ∃ V, w3.alloc (.cells #[.string y, .int .i64 T] 32) = V := ⟨_, rfl⟩
  have HV : Hid (w3.alloc (.cells #[.string y, .int .i64 T] 32) = V) := hV
  have HGV : Hid (w3.grownBy V none) := hV ▸ World.grownBy_alloc w3 _ none
  have HB20 : Hid (V.heap[w3.heap.size]? = some (.cells #[.string y, .int .i64 T] 32 (0, 0))) := by rw [← hV]; exact heap_alloc_new w3 _
  clear hV
  go_upto_region 4 with fail
  rw [HV.out]
  have HWV : Hid (W.grownBy V none) := (((HG1.out.trans HGW1.out).trans HG2.out).trans HG3.out).trans HGV.out
  have HwV : Hid (w.grownBy V none) := HGW.out.trans HWV.out
  have HX9 : Hid (V.heap[w.heap.size]? = some (.cells #[.string x, .int .i64 S] 32 (0, 0))) := (HWV.out.block _ (Array.getElem?_eq_some_iff.1 HB9.out).1 (by simp)).trans HB9.out
  have HX17 : Hid (V.heap[w1.heap.size]? = some (.cells #[.string y, .int .i64 T] 32 (0, 0))) := (((HG2.out.trans HG3.out).trans HGV.out).block _ (Array.getElem?_eq_some_iff.1 HB17.out).1 (by simp)).trans HB17.out
  have HOV : Hid (Own V W1.heap.size g (L + 2) c2 (zs ++ [201, 201])) := Own.kept HO2.out (HG3.out.trans HGV.out) (by simp)
  have hn9 : w.heap.size ≠ g := by
    have h1 := HO2.out.ge.1
    have h2 := (Array.getElem?_eq_some_iff.1 HB9.out).1
    have h3 := (HG1.out.trans HGW1.out).size
    omega
  have hn17 : w1.heap.size ≠ g := by
    have h1 := HO2.out.ge.1
    have h2 := (Array.getElem?_eq_some_iff.1 HB17.out).1
    omega
  have hn20 : w3.heap.size ≠ g := by
    have h1 := HO2.out.ge.2
    have h2 := HG3.out.size
    omega
  have hgw : w.heap.size ≤ g := by
    have h1 := HO2.out.ge.1
    have h3 := ((HGW.out.trans HG1.out).trans HGW1.out).size
    omega
  have HGK : Hid (∀ u, V.grownBy u (some g) → w.grownBy u none) := fun u h => gb_trans HwV.out h (fun k hk => .inl (by cases hk; exact hgw))
  generalize w.heap.size = B9 at HX9 hn9 ⊢
  generalize w1.heap.size = B17 at HX17 hn17 ⊢
  generalize w3.heap.size = B20 at HB20 hn20 ⊢
  obtain ⟨x0, x1⟩ := cell2 HX9.out
  obtain ⟨y0, y1⟩ := cell2 HX17.out
  obtain ⟨z0, z1⟩ := cell2 HB20.out
  have KC : Hid (∀ w', V.grownBy w' (some g) → w'.cell? ⟨B9, 0, none⟩ = some (.string x) ∧ w'.cell? ⟨B9, 1, none⟩ = some (.int .i64 S) ∧ w'.cell? ⟨B17, 0, none⟩ = some (.string y) ∧ w'.cell? ⟨B17, 1, none⟩ = some (.int .i64 T) ∧ w'.cell? ⟨B20, 0, none⟩ = some (.string y) ∧ w'.cell? ⟨B20, 1, none⟩ = some (.int .i64 T)) := fun u h => ⟨h.cell x0 (by simpa using hn9), h.cell x1 (by simpa using hn9), h.cell y0 (by simpa using hn17), h.cell y1 (by simpa using hn17), h.cell z0 (by simpa using hn20), h.cell z1 (by simpa using hn20)⟩
  have KE : Hid (∀ u w', Hid (V.grownBy u (some g)) → u.grownBy w' none → Hid (V.grownBy w' (some g)) ∧ w'.cell? ⟨B9, 0, none⟩ = some (.string x) ∧ w'.cell? ⟨B9, 1, none⟩ = some (.int .i64 S) ∧ w'.cell? ⟨B17, 0, none⟩ = some (.string y) ∧ w'.cell? ⟨B17, 1, none⟩ = some (.int .i64 T) ∧ w'.cell? ⟨B20, 0, none⟩ = some (.string y) ∧ w'.cell? ⟨B20, 1, none⟩ = some (.int .i64 T)) := fun u u' h hg => ⟨gb_trans h.out hg (by simp), KC.out u' (gb_trans h.out hg (by simp))⟩
  have HDR : Hid (V.grownBy V.drew (some g)) := gb_weak (gb_drewN V 1)
  have HDR0 : Hid (V.grownBy V.drew none) := gb_drewN V 1
  have H17 : Hid (Calls Tryd.prog 17 #[.slice (some ⟨g, 0, none⟩) L c2, .slice a L cap] V.drew fun e w' => e = .returned (.bool true) ∧ Hid (V.grownBy w' (some g)) ∧ w'.cell? ⟨B9, 0, none⟩ = some (.string x) ∧ w'.cell? ⟨B9, 1, none⟩ = some (.int .i64 S) ∧ w'.cell? ⟨B17, 0, none⟩ = some (.string y) ∧ w'.cell? ⟨B17, 1, none⟩ = some (.int .i64 T) ∧ w'.cell? ⟨B20, 0, none⟩ = some (.string y) ∧ w'.cell? ⟨B20, 1, none⟩ = some (.int .i64 T)) := (HKP.out V.drew _ g c2 (HRB.out _ (HwV.out.trans HDR0.out)) (Own.kept HOV.out HDR0.out (by simp))).mono fun e w' ⟨h1, h2⟩ => ⟨h1, gb_trans HDR.out h2 (fun k hk => .inr hk), KC.out w' (gb_trans HDR.out h2 (fun k hk => .inr hk))⟩
  have H19 : Hid (∀ u, Hid (V.grownBy u (some g)) → Calls Tryd.prog 19 #[leadV x S] u fun e w' => ∃ g' c' M', e = .returned (.slice (some ⟨g', 0, none⟩) M' c') ∧ Hid (Own w' u.heap.size g' M' c' (leadR x S)) ∧ Hid (u.grownBy w' none) ∧ Hid (V.grownBy w' (some g)) ∧ w'.cell? ⟨B9, 0, none⟩ = some (.string x) ∧ w'.cell? ⟨B9, 1, none⟩ = some (.int .i64 S) ∧ w'.cell? ⟨B17, 0, none⟩ = some (.string y) ∧ w'.cell? ⟨B17, 1, none⟩ = some (.int .i64 T) ∧ w'.cell? ⟨B20, 0, none⟩ = some (.string y) ∧ w'.cell? ⟨B20, 1, none⟩ = some (.int .i64 T)) := fun u h => (f_encodeL x S u HXS.out HSB.out).mono fun e w' ⟨g', c', M', h1, h2, h3⟩ => ⟨g', c', M', h1, h2, h3, KE.out u w' h h3⟩
  have H20 : Hid (∀ u, Hid (V.grownBy u (some g)) → Calls Tryd.prog 20 #[leadV x S] u fun e w' => ∃ g' c' M', e = .returned (.slice (some ⟨g', 0, none⟩) M' c') ∧ Hid (Own w' u.heap.size g' M' c' (leadR x S)) ∧ Hid (u.grownBy w' none) ∧ Hid (V.grownBy w' (some g)) ∧ w'.cell? ⟨B9, 0, none⟩ = some (.string x) ∧ w'.cell? ⟨B9, 1, none⟩ = some (.int .i64 S) ∧ w'.cell? ⟨B17, 0, none⟩ = some (.string y) ∧ w'.cell? ⟨B17, 1, none⟩ = some (.int .i64 T) ∧ w'.cell? ⟨B20, 0, none⟩ = some (.string y) ∧ w'.cell? ⟨B20, 1, none⟩ = some (.int .i64 T)) := fun u h => (r_encodeL x S u HXS.out HSB.out).mono fun e w' ⟨g', c', M', h1, h2, h3⟩ => ⟨g', c', M', h1, h2, h3, KE.out u w' h h3⟩
  have HLR : Hid ((leadR x S).length ≤ 140737488355328) := by
    show _ ≤ _
    have h1 := enc_len x.size (by have := HXS.out; omega)
    have h2 := enc_len (zz S).toNat (by have := zz_bd S HSB.out; omega)
    have h3 := HXS.out
    rw [leadR, List.length_append, List.length_append, sInts_len]
    omega
  have H18 : Hid (∀ (u : World) (g' g'' M' M'' c' c'' : Nat), Hid (V.grownBy u (some g)) → Hid (Rd u (some ⟨g', 0, none⟩) (leadR x S) ∧ (leadR x S).length = M') → Hid (Rd u (some ⟨g'', 0, none⟩) (leadR x S) ∧ (leadR x S).length = M'') → Calls Tryd.prog 18 #[.slice (some ⟨g', 0, none⟩) M' c', .slice (some ⟨g'', 0, none⟩) M'' c''] u fun e w' => e = .returned (.bool true) ∧ Hid (V.grownBy w' (some g)) ∧ w'.cell? ⟨B9, 0, none⟩ = some (.string x) ∧ w'.cell? ⟨B9, 1, none⟩ = some (.int .i64 S) ∧ w'.cell? ⟨B17, 0, none⟩ = some (.string y) ∧ w'.cell? ⟨B17, 1, none⟩ = some (.int .i64 T) ∧ w'.cell? ⟨B20, 0, none⟩ = some (.string y) ∧ w'.cell? ⟨B20, 1, none⟩ = some (.int .i64 T)) := fun u g' g'' M' M'' c' c'' h h1 h2 => by
    have h3 := same_any _ _ _ _ M' M'' c' c'' u h1.out.1 h2.out.1 h1.out.2 h2.out.2 (by have := HLR.out; have := h1.out.2; omega)
    rw [decide_eq_true rfl] at h3
    exact h3.mono fun e w' ⟨h4, h5⟩ => ⟨h4, KE.out u w' h h5⟩
  have H21 : Hid (∀ u, Hid (V.grownBy u (some g)) → Calls Tryd.prog 21 #[.string t, .string rep] u fun e w' => e = .returned (.string K) ∧ Hid (V.grownBy w' (some g)) ∧ w'.cell? ⟨B9, 0, none⟩ = some (.string x) ∧ w'.cell? ⟨B9, 1, none⟩ = some (.int .i64 S) ∧ w'.cell? ⟨B17, 0, none⟩ = some (.string y) ∧ w'.cell? ⟨B17, 1, none⟩ = some (.int .i64 T) ∧ w'.cell? ⟨B20, 0, none⟩ = some (.string y) ∧ w'.cell? ⟨B20, 1, none⟩ = some (.int .i64 T)) := fun u h => (HKF.out u (HGK.out u h.out)).mono fun e w' ⟨h1, h2⟩ => ⟨h1, KE.out u w' h h2⟩
  have H22 : Hid (∀ u, Hid (V.grownBy u (some g)) → Calls Tryd.prog 22 #[.string t, .string rep] u fun e w' => e = .returned (.string K) ∧ Hid (V.grownBy w' (some g)) ∧ w'.cell? ⟨B9, 0, none⟩ = some (.string x) ∧ w'.cell? ⟨B9, 1, none⟩ = some (.int .i64 S) ∧ w'.cell? ⟨B17, 0, none⟩ = some (.string y) ∧ w'.cell? ⟨B17, 1, none⟩ = some (.int .i64 T) ∧ w'.cell? ⟨B20, 0, none⟩ = some (.string y) ∧ w'.cell? ⟨B20, 1, none⟩ = some (.int .i64 T)) := fun u h => (HKR.out u (HGK.out u h.out)).mono fun e w' ⟨h1, h2⟩ => ⟨h1, KE.out u w' h h2⟩
  have hq0 : ∀ u, (binOp .neq 32 (.agg #[.string y, .int .i64 T]) (.agg #[.string y, .int .i64 T])).run Tryd.prog u = .ok (.bool false) u := fun u => by rw [neq32]; simp
  have hq1 : (Cd != Cd) = false := by simp
  have hq2 : (K.toList != K.toList) = false := by simp
  clear hn9 hn17 hn20 hgw
  go_cut [64] from 34 to 64 (fun t64 wx => t64 = .bool false ∧ V.grownBy wx (some g))
  case first =>
    go_region_held3 (fun u => Hid (V.grownBy u (some g)) ∧ u.cell? ⟨B9, 0, none⟩ = some (.string x) ∧ u.cell? ⟨B9, 1, none⟩ = some (.int .i64 S) ∧ u.cell? ⟨B17, 0, none⟩ = some (.string y) ∧ u.cell? ⟨B17, 1, none⟩ = some (.int .i64 T) ∧ u.cell? ⟨B20, 0, none⟩ = some (.string y) ∧ u.cell? ⟨B20, 1, none⟩ = some (.int .i64 T)) (first | exact ⟨HDR, x0, x1, y0, y1, z0, z1⟩ | (refine ⟨?_, ?_, ?_, ?_, ?_, ?_, ?_⟩ <;> assumption)) (first
      | (go_at_call 17; refine H17.out.mono ?_; rintro e z17 ⟨rfl, s17, i17, j17, k17, l17, m17, n17⟩)
      | (go_at_call 19; refine (H19.out _ ?h1).mono ?_; (case h1 => first | exact HDR | assumption); rintro e z19 ⟨g9, c9, M9, rfl, o9, q9, s19, i19, j19, k19, l19, m19, n19⟩)
      | (go_at_call 20; refine (H20.out _ ?h1).mono ?_; (case h1 => first | exact HDR | assumption); rintro e z20 ⟨g8, c8, M8, rfl, o8, q8, s20, i20, j20, k20, l20, m20, n20⟩)
      | (go_at_call 18; refine (H18.out _ g9 g8 M9 M8 c9 c8 ?h1 ?h2 ?h3).mono ?_; (case h1 => first | exact HDR | assumption); (case h2 => first | exact ⟨o9.out.rd, o9.out.len⟩ | exact ⟨o9.out.rd.grown q8.out (by simp), o9.out.len⟩); (case h3 => first | exact ⟨o8.out.rd, o8.out.len⟩ | exact ⟨o8.out.rd.grown q9.out (by simp), o8.out.len⟩); rintro e z18 ⟨rfl, s18, i18, j18, k18, l18, m18, n18⟩)
      | (go_at_call 21; refine (H21.out _ ?h1).mono ?_; (case h1 => first | exact HDR | assumption); rintro e z21 ⟨rfl, s21, i21, j21, k21, l21, m21, n21⟩)
      | (go_at_call 22; refine (H22.out _ ?h1).mono ?_; (case h1 => first | exact HDR | assumption); rintro e z22 ⟨rfl, s22, i22, j22, k22, l22, m22, n22⟩))
    all_goals (go_wp2_with fail; go_meet)
    all_goals (first | exact ⟨rfl, s22.out⟩ | exact ⟨rfl, s21.out⟩)
  case rest =>
    obtain ⟨rfl, hgx⟩ := hcut
    have HGC : Hid (w.grownBy wc none) := HGK.out _ hgx
    obtain ⟨v0, v1, _⟩ := KC.out _ hgx
    clear x0 x1 y0 y1 z0 z1 KC KE H17 H18 H19 H20 H21 H22 hq0 hq1 hq2 HDR HDR0 hgx HKF HKR HGK
    by_cases b1 : S < -1099511627776
    · have r1 : decide (S < -1099511627776) = true := by simpa using b1
      clear b1
      go_wp2_with (go_at_call 13; refine (HAW.out _ HGC.out).mono ?_; rintro e w9 ⟨rfl, hg9⟩)
      go_ret
      exact ⟨rfl, HGC.out.trans hg9⟩
    · have r1 : decide (S < -1099511627776) = false := by simpa using b1
      by_cases b2 : 1099511627776 < S
      · have r2 : decide (1099511627776 < S) = true := by simpa using b2
        clear b1 b2
        go_wp2_with (go_at_call 13; refine (HAW.out _ HGC.out).mono ?_; rintro e w9 ⟨rfl, hg9⟩)
        go_ret
        exact ⟨rfl, HGC.out.trans hg9⟩
      · have r2 : decide (1099511627776 < S) = false := by simpa using b2
        by_cases b3 : now < -1099511627776
        · have r3 : decide (now < -1099511627776) = true := by simpa using b3
          clear b1 b2 b3
          go_wp2_with (go_at_call 13; refine (HAW.out _ HGC.out).mono ?_; rintro e w9 ⟨rfl, hg9⟩)
          go_ret
          exact ⟨rfl, HGC.out.trans hg9⟩
        · have r3 : decide (now < -1099511627776) = false := by simpa using b3
          by_cases b4 : 1099511627776 < now
          · have r4 : decide (1099511627776 < now) = true := by simpa using b4
            clear b1 b2 b3 b4
            go_wp2_with (go_at_call 13; refine (HAW.out _ HGC.out).mono ?_; rintro e w9 ⟨rfl, hg9⟩)
            go_ret
            exact ⟨rfl, HGC.out.trans hg9⟩
          · have r4 : decide (1099511627776 < now) = false := by simpa using b4
            obtain ⟨D, hDD⟩ : ∃ D, decR has x rep (now - S) rf fo = D := ⟨_, rfl⟩
            have H23 : Hid (∀ p9 : Gb wc, Calls Tryd.prog 23 #[.bool has, leadV x S, .string rep, .int .i64 now, .int .i64 rf, .int .i64 fo] p9.w' fun e w' => e = .returned (.int .i64 D) ∧ p9.w'.grownBy w' none) := fun p9 => f_decide has x rep S now rf fo D p9.w' (by omega) (by omega) hDD
            have H24 : Hid (∀ p9 : Gb wc, Calls Tryd.prog 24 #[.bool has, leadV x S, .string rep, .int .i64 now, .int .i64 rf, .int .i64 fo] p9.w' fun e w' => e = .returned (.int .i64 D) ∧ p9.w'.grownBy w' none) := fun p9 => r_decide has x rep S now rf fo D p9.w' (by omega) (by omega) hDD
            have H13 : Hid (∀ p9 : Gb wc, Calls Tryd.prog 13 #[] p9.w' fun e w' => e = .returned (.bool true) ∧ p9.w'.grownBy w' none) := fun p9 => HAW.out p9.w' (HGC.out.trans p9.h)
            clear b1 b2 b3 b4 hDD
            go_wp2_with fail
            have e0 : ∀ p9 : Gb wc, p9.w'.cell? ⟨B9, 0, none⟩ = some (.string x) := Gb.cell v0
            have e1 : ∀ p9 : Gb wc, p9.w'.cell? ⟨B9, 1, none⟩ = some (.int .i64 S) := Gb.cell v1
            clear v0 v1
            refine wp_region_gb (by kernel_rfl) (by kernel_rfl) ?_
            repeat ((with_reducible refine wpQuiet_step (fun K hK => ?_)); go_simp; first | (refine hK _ ?_; clear hK K) | (apply Exists.intro; refine ⟨fun _ => ?_, hK _ ?_⟩; (first | (go_at_call 23; exact gb_call (H23.out _)) | (go_at_call 24; exact gb_call (H24.out _)) | (go_at_call 13; exact gb_call (H13.out _))); clear hK K))
            with_reducible refine wpQuiet_nil ?_
            rintro wq ⟨p9, hp9⟩
            have hq : wc.grownBy wq none := hp9 ▸ p9.h
            clear hp9
            clear p9
            clear e0 e1
            go_wp2
            go_ret
            exact ⟨rfl, HGC.out.trans hq⟩
end Go.Proofs.YtecnocdffhmkaaaDoor
