/- A Leader read: Decode, the document's and the program's. (Printed by mk_hd.py.) -/
import Derived.Test.YtecnocdffhmkaaaDoorHc
namespace Go.Proofs.YtecnocdffhmkaaaDoor
open Go.RowKit
set_option linter.unusedVariables false
set_option maxRecDepth 20000

/-- What bytes are read as: replica, stamp, error. -/
def leadD (zs : List Int) : ByteArray × Int × Int :=
  if (textR zs 0).2.2 ≠ 0 then (⟨#[]⟩, 0, 161) else if (intR zs (textR zs 0).2.1).2.2 ≠ 0 ∨ (intR zs (textR zs 0).2.1).2.1 ≠ (zs.length : Int) then (⟨#[]⟩, 0, 161) else ((textR zs 0).1, (intR zs (textR zs 0).2.1).1, 0)
theorem gb_put2 {w W : World} {g : Nat} (h : w.grownBy W none) (hg : w.heap.size ≤ g) (u v : Value) : w.grownBy ((W.setCell ⟨g, 0, none⟩ u).setCell ⟨g, 1, none⟩ v) none :=
  gb_trans (row' := some g) (gb_trans (row' := some g) h (gb_set rfl) (fun k hk => .inl (by cases hk; exact hg))) (gb_set rfl) (fun k hk => .inl (by cases hk; exact hg))
abbrev leadT (x : ByteArray) (S e : Int) : Value := .tuple #[leadV x S, .int .i64 e]
theorem lead_ret {x y : ByteArray} {S T e f : Int} (h : (x, S, e) = (y, T, f)) : Ending.returned (leadT x S e) = .returned (leadT y T f) := by cases h; rfl
set_option maxHeartbeats 2000000 in
theorem r_decodeL (a : Option Addr) (zs : List Int) (L cap : Nat) (x : ByteArray) (S C : Int) (w : World) (hr : Rd w a zs) (hL : zs.length = L) (hcap : L ≤ cap) (hz : (L : Int) ≤ 140737488355000) (hR : leadD zs = (x, S, C)) :
    Calls Tryd.prog 14 #[.slice a L cap] w fun e w' => e = .returned (leadT x S C) ∧ w.grownBy w' none := by
  obtain ⟨s1, p1, e1, ht⟩ : ∃ s1 p1 e1, textR zs 0 = (s1, p1, e1) := ⟨_, _, _, rfl⟩
  obtain ⟨v2, p2, e2, hi⟩ : ∃ v2 p2 e2, intR zs p1 = (v2, p2, e2) := ⟨_, _, _, rfl⟩
  unfold leadD at hR
  rw [ht] at hR
  simp only at hR
  rw [hi, hL] at hR
  simp only at hR
  have HT : Hid (∀ w1, w.grownBy w1 none → Calls Tryd.prog 35 #[.slice a L cap, .int .i64 0] w1 fun e w' => e = .returned (.tuple #[.string s1, .int .i64 p1, .int .i64 e1]) ∧ w1 = w') := fun w1 hg => rtext a zs L cap 0 s1 p1 e1 w1 (hr.grown hg (by simp)) hL hcap hz ht
  have HI : Hid (∀ w1, w.grownBy w1 none → Calls Tryd.prog 36 #[.slice a L cap, .int .i64 p1] w1 fun e w' => e = .returned (.tuple #[.int .i64 v2, .int .i64 p2, .int .i64 e2]) ∧ w1 = w') := fun w1 hg => rint a zs L cap p1 v2 p2 e2 w1 (hr.grown hg (by simp)) hL hz hi
  have HG : Hid (w.grownBy (w.alloc (.cells #[.string ⟨#[]⟩, .int .i64 0] 32)) none) := World.grownBy_alloc w _ none
  clear hr hL hcap ht hi
  by_cases h1 : e1 = 0
  · subst h1
    rw [if_neg (by simp)] at hR
    by_cases h2 : e2 = 0
    · subst h2
      by_cases h3 : p2 = (L : Int)
      · subst h3
        rw [if_neg (by simp)] at hR
        have HR : Hid ((s1, v2, (0 : Int)) = (x, S, C)) := hR
        clear hR
        go_enter Tryd.func14, Tryd.ntmps14
        go_wp2_with (first | (go_at_call 35; refine (HT.out _ HG.out).mono ?_; rintro e w1 ⟨rfl, rfl⟩) | (go_at_call 36; refine (HI.out _ HG.out).mono ?_; rintro e w1 ⟨rfl, rfl⟩))
        refine bodyPost_ret (v := leadT s1 v2 0) (by simp [results, Tryd.results14, go_sem]) rfl ⟨lead_ret HR.out, ?_⟩
        exact World.grownBy_alloc w _ none
      · rw [if_pos (.inr h3)] at hR
        have HR : Hid (((⟨#[]⟩ : ByteArray), (0 : Int), (161 : Int)) = (x, S, C)) := hR
        have q3 : (p2 != (L : Int)) = true := by simpa using h3
        clear hR h3
        go_enter Tryd.func14, Tryd.ntmps14
        go_wp2_with (first | (go_at_call 35; refine (HT.out _ HG.out).mono ?_; rintro e w1 ⟨rfl, rfl⟩) | (go_at_call 36; refine (HI.out _ HG.out).mono ?_; rintro e w1 ⟨rfl, rfl⟩))
        refine bodyPost_ret (v := leadT ⟨#[]⟩ 0 161) (by simp [results, Tryd.results14, go_sem]) rfl ⟨lead_ret HR.out, ?_⟩
        exact World.grownBy_alloc w _ none
    · rw [if_pos (.inl h2)] at hR
      have HR : Hid (((⟨#[]⟩ : ByteArray), (0 : Int), (161 : Int)) = (x, S, C)) := hR
      have q2 : (e2 != 0) = true := by simpa using h2
      clear hR h2
      go_enter Tryd.func14, Tryd.ntmps14
      go_wp2_with (first | (go_at_call 35; refine (HT.out _ HG.out).mono ?_; rintro e w1 ⟨rfl, rfl⟩) | (go_at_call 36; refine (HI.out _ HG.out).mono ?_; rintro e w1 ⟨rfl, rfl⟩))
      refine bodyPost_ret (v := leadT ⟨#[]⟩ 0 161) (by simp [results, Tryd.results14, go_sem]) rfl ⟨lead_ret HR.out, ?_⟩
      exact World.grownBy_alloc w _ none
  · rw [if_pos h1] at hR
    have HR : Hid (((⟨#[]⟩ : ByteArray), (0 : Int), (161 : Int)) = (x, S, C)) := hR
    have q1 : (e1 != 0) = true := by simpa using h1
    clear hR h1
    go_enter Tryd.func14, Tryd.ntmps14
    go_wp2_with (first | (go_at_call 35; refine (HT.out _ HG.out).mono ?_; rintro e w1 ⟨rfl, rfl⟩) | (go_at_call 36; refine (HI.out _ HG.out).mono ?_; rintro e w1 ⟨rfl, rfl⟩))
    refine bodyPost_ret (v := leadT ⟨#[]⟩ 0 161) (by simp [results, Tryd.results14, go_sem]) rfl ⟨lead_ret HR.out, ?_⟩
    exact World.grownBy_alloc w _ none

/-- What the program reads. -/
theorem lead_prog (zs : List Int) (L : Nat) (hL : zs.length = L) : leadD zs = (if (!(nxtI zs ((nxtT zs (0, false)).2)).2.2 && decide ((nxtI zs ((nxtT zs (0, false)).2)).2.1 = (L : Int))) = true then ((nxtT zs (0, false)).1, (nxtI zs ((nxtT zs (0, false)).2)).1, 0) else (⟨#[]⟩, 0, 161)) := by
  subst hL
  unfold leadD nxtT nxtI
  by_cases h1 : (textR zs 0).2.2 = 0
  · by_cases h2 : (intR zs (textR zs 0).2.1).2.2 = 0
    · by_cases h3 : (intR zs (textR zs 0).2.1).2.1 = (zs.length : Int)
      · simp [h1, h2, h3]
      · simp [h1, h2, h3]
    · simp [h1, h2]
  · simp [h1]
set_option maxHeartbeats 2000000 in
theorem f_decodeL (a : Option Addr) (zs : List Int) (L cap : Nat) (x : ByteArray) (S C : Int) (w : World) (hr : Rd w a zs) (hL : zs.length = L) (hcap : L ≤ cap) (hz : (L : Int) ≤ 140737488355000) (hR : leadD zs = (x, S, C)) :
    Calls Tryd.prog 16 #[.slice a L cap] w fun e w' => e = .returned (leadT x S C) ∧ w.grownBy w' none := by
  obtain ⟨W, hW⟩ : ∃ W, W = w.alloc (.cells #[.string ⟨#[]⟩, .int .i64 0] 32) := ⟨_, rfl⟩
  have HW : Hid (w.alloc (.cells #[.string ⟨#[]⟩, .int .i64 0] 32) = W) := hW.symm
  have HG : Hid (w.grownBy W none) := hW ▸ World.grownBy_alloc w _ none
  have HBX : Hid (W.heap[w.heap.size]? = some (.cells #[.string ⟨#[]⟩, .int .i64 0] 32 (0, 0))) := by rw [hW]; exact heap_alloc_new w _
  have HSZ : Hid (W.heap.size = w.heap.size + 1) := by rw [hW]; exact Array.size_push _
  have HO : Hid (Calls Tryd.prog 38 #[.slice a L cap] W fun e w' => e = .returned (.pointer (some ⟨W.heap.size, 0, none⟩)) ∧ RAt w' W.heap.size a L cap zs 0 false ∧ W.grownBy w' none) := g_of a zs L cap W (hr.grown HG.out (by simp)) hL hcap hz
  rw [lead_prog zs L hL] at hR
  have HT : Hid (∀ w1, RAt w1 W.heap.size a L cap zs 0 false → Calls Tryd.prog 39 #[.pointer (some ⟨W.heap.size, 0, none⟩)] w1 fun e w' => NxOutT w1 W.heap.size a L cap zs (nxtT zs (0, false)) e w') := fun w1 h => rd_T w1 _ a L cap zs 0 false h
  obtain ⟨s1, p1, b1, e1⟩ : ∃ s1 p1 b1, nxtT zs (0, false) = (s1, p1, b1) := ⟨_, _, _, rfl⟩
  rw [e1] at HT hR
  simp only at hR
  have HI : Hid (∀ w1, RAt w1 W.heap.size a L cap zs p1 b1 → Calls Tryd.prog 40 #[.pointer (some ⟨W.heap.size, 0, none⟩)] w1 fun e w' => NxOutI w1 W.heap.size a L cap zs (nxtI zs (p1, b1)) e w') := fun w1 h => rd_I w1 _ a L cap zs p1 b1 h
  obtain ⟨v2, p2, b2, e2⟩ : ∃ v2 p2 b2, nxtI zs (p1, b1) = (v2, p2, b2) := ⟨_, _, _, rfl⟩
  rw [e2] at HI hR
  simp only at hR
  have HWh : Hid (∀ w1, RAt w1 W.heap.size a L cap zs p2 b2 → Calls Tryd.prog 41 #[.pointer (some ⟨W.heap.size, 0, none⟩)] w1 fun e w' => e = .returned (.bool (!b2 && decide (p2 = (L : Int)))) ∧ ∃ n, w' = w1.drewN n) := fun w1 h => g_whole w1 _ a L cap zs p2 b2 h
  obtain ⟨ok, hok⟩ : ∃ ok, (!b2 && decide (p2 = (L : Int))) = ok := ⟨_, rfl⟩
  rw [hok] at HWh hR
  have HR : Hid ((if ok = true then (s1, v2, 0) else ((⟨#[]⟩ : ByteArray), (0 : Int), (161 : Int))) = (x, S, C)) := hR
  clear hr hL hcap hR hok e1 e2 hW
  generalize hB : W.heap.size = B at HO HT HI HWh HSZ
  have HB : Hid (W.heap.size = B) := hB
  clear hB
  go_enter Tryd.func16, Tryd.ntmps16
  go_upto_region 1 with fail
  rw [HW.out]
  go_wp2_with fail
  refine HO.out.mono ?_
  rintro e w1 ⟨rfl, h1⟩
  have H1 : Hid (RAt w1 B a L cap zs 0 false ∧ W.grownBy w1 none) := h1
  clear h1
  go_wp2_with fail
  refine (HT.out w1 H1.out.1).mono ?_
  intro e w2 h2
  obtain ⟨rfl, H2⟩ := nx_callT h2
  clear h2
  go_wp2_with fail
  refine (HI.out w2 H2.out.1).mono ?_
  intro e w3 h3
  obtain ⟨rfl, H3⟩ := nx_callI h3
  clear h3
  have HG3 : Hid (W.grownBy w3 none) := by
    have hge : W.heap.size ≤ B := by rw [HB.out]; exact Nat.le_refl _
    exact gb_trans (gb_trans H1.out.2 H2.out.2 (fun k hk => .inl (by simp at hk; omega))) H3.out.2 (fun k hk => .inl (by simp at hk; omega))
  have HX3 : Hid (w3.heap[w.heap.size]? = some (.cells #[.string ⟨#[]⟩, .int .i64 0] 32 (0, 0))) := by
    have hlt : w.heap.size < W.heap.size := by have := HSZ.out; have := HB.out; omega
    exact (HG3.out.block w.heap.size hlt (by simp)).trans HBX.out
  obtain ⟨W4, hW4⟩ : ∃ W4, w3.alloc (.cells #[.string s1, .int .i64 v2] 32) = W4 := ⟨_, rfl⟩
  have HW4 : Hid (w3.alloc (.cells #[.string s1, .int .i64 v2] 32) = W4) := hW4
  have HG4 : Hid (w3.grownBy W4 none) := hW4 ▸ World.grownBy_alloc w3 _ none
  have HB4 : Hid (W4.heap[w3.heap.size]? = some (.cells #[.string s1, .int .i64 v2] 32 (0, 0))) := by rw [← hW4]; exact heap_alloc_new w3 _
  clear hW4
  go_upto_region 3 with fail
  rw [HW4.out]
  go_wp2_with fail
  refine (HWh.out W4 (H3.out.1.grown HG4.out)).mono ?_
  rintro e w5 ⟨rfl, n5, hn5⟩
  have HG5 : Hid (W4.grownBy w5 none) := hn5 ▸ gb_drewN W4 n5
  clear hn5
  have x5 := (HG4.out.trans HG5.out).block w.heap.size (Array.getElem?_eq_some_iff.1 HX3.out).1 (by simp)
  rw [HX3.out] at x5
  have y5 := HG5.out.block w3.heap.size (Array.getElem?_eq_some_iff.1 HB4.out).1 (by simp)
  rw [HB4.out] at y5
  have hne : w3.heap.size ≠ w.heap.size := by
    have h1 := (Array.getElem?_eq_some_iff.1 HX3.out).1
    omega
  have HGall : Hid (w.grownBy w5 none) := ((HG.out.trans HG3.out).trans HG4.out).trans HG5.out
  have c0 : w5.cell? ⟨w3.heap.size, 0, none⟩ = some (.string s1) := by rw [cell_of_row w5 w3.heap.size 0 _ _ _ y5]; rfl
  have c1 : w5.cell? ⟨w3.heap.size, 1, none⟩ = some (.int .i64 v2) := by rw [cell_of_row w5 w3.heap.size 1 _ _ _ y5]; rfl
  have k0 : w5.cell? ⟨w.heap.size, 0, none⟩ = some (.string ⟨#[]⟩) := by rw [cell_of_row w5 w.heap.size 0 _ _ _ x5]; rfl
  have k1 : w5.cell? ⟨w.heap.size, 1, none⟩ = some (.int .i64 0) := by rw [cell_of_row w5 w.heap.size 1 _ _ _ x5]; rfl
  have f0 := free_row x5 0
  have f1 := free_row x5 1
  clear x5 y5
  cases ok with
  | true =>
    have HR2 : Hid ((s1, v2, (0 : Int)) = (x, S, C)) := HR.out
    go_wp2
    refine bodyPost_ret (v := leadT s1 v2 0) (by simp [results, Tryd.results16, go_sem, k0, k1]) rfl ⟨lead_ret HR2.out, ?_⟩
    exact gb_put2 HGall.out (Nat.le_refl _) _ _
  | false =>
    have HR2 : Hid (((⟨#[]⟩ : ByteArray), (0 : Int), (161 : Int)) = (x, S, C)) := HR.out
    go_wp2
    refine bodyPost_ret (v := leadT ⟨#[]⟩ 0 161) (by simp [results, Tryd.results16, go_sem, k0, k1]) rfl ⟨lead_ret HR2.out, ?_⟩
    exact gb_put2 HGall.out (Nat.le_refl _) _ _
end Go.Proofs.YtecnocdffhmkaaaDoor
