/- A Leader's bytes: Encode, the program's and the document's. (Printed by mk_hb.py.) -/
import Derived.Test.YtecnocdffhmkaaaDoorHa
import Derived.Test.YtecnocdffhmkaaaDoorMc
import Derived.Deep.RegionHeld3
namespace Go.Proofs.YtecnocdffhmkaaaDoor
set_option maxRecDepth 20000
open Go.RowKit
set_option linter.unusedVariables false


theorem rd_nil9 (u : World) : Rd u none [] := ⟨.inl rfl, by simp⟩
def leadR (x : ByteArray) (S : Int) : List Int := enc x.size ++ sInts x ++ enc (zz S).toNat

set_option maxHeartbeats 1000000 in
theorem f_encodeL (x : ByteArray) (S : Int) (w : World) (hx : x.size ≤ 140737488351232) (hS : -9223372036854775808 ≤ S ∧ S ≤ 9223372036854775807) :
    Calls Tryd.prog 19 #[leadV x S] w fun e w' => ∃ g c M, e = .returned (.slice (some ⟨g, 0, none⟩) M c) ∧ Own w' w.heap.size g M c (leadR x S) ∧ w.grownBy w' none := by
  obtain ⟨W, hW⟩ : ∃ W, W = w.alloc (.cells #[.string x, .int .i64 S] 32) := ⟨_, rfl⟩
  have HG : Hid (w.grownBy W none) := hW ▸ World.grownBy_alloc w _ none
  have HB : Hid (W.cell? ⟨w.heap.size, 0, none⟩ = some (.string x) ∧ W.cell? ⟨w.heap.size, 1, none⟩ = some (.int .i64 S)) := by
    rw [hW]
    refine ⟨?_, ?_⟩
    · rw [cell_of_row _ w.heap.size 0 _ _ _ (heap_alloc_new w _)]; rfl
    · rw [cell_of_row _ w.heap.size 1 _ _ _ (heap_alloc_new w _)]; rfl
  have HW : Hid (w.alloc (.cells #[.string x, .int .i64 S] 32) = W) := hW.symm
  clear hW
  have HP : Hid (∀ u, W.grownBy u none → Calls Tryd.prog 43 #[.slice none 0 0, .string x] u fun e w' => ∃ g c M, e = .returned (.slice (some ⟨g, 0, none⟩) M c) ∧ Hid (Own w' u.heap.size g M c (enc x.size ++ sInts x)) ∧ Hid (u.grownBy w' none)) := fun u hu => by
    refine (f_puttext none [] 0 0 x u (rd_nil9 u) rfl (fun _ => rfl) (by omega)).mono ?_
    rintro e w' ⟨g, c, M, rfl, h1, h2⟩
    exact ⟨g, c, M, rfl, by rw [List.nil_append] at h1; exact h1, h2⟩
  have HI : Hid (∀ (u u' : World) (g c M : Nat), Hid (Own u' u.heap.size g M c (enc x.size ++ sInts x)) → Calls Tryd.prog 42 #[.slice (some ⟨g, 0, none⟩) M c, .int .i64 S] u' fun e w' => ∃ g2 c2 M2, e = .returned (.slice (some ⟨g2, 0, none⟩) M2 c2) ∧ Hid (Own w' u'.heap.size g2 M2 c2 (leadR x S)) ∧ Hid (u'.grownBy w' none)) := fun u u' g c M ho => by
    have hl := ho.out.len
    have h1 := enc_len x.size (by omega)
    have h2 := sInts_len x
    rw [List.length_append] at hl
    refine (f_putint (some ⟨g, 0, none⟩) (enc x.size ++ sInts x) M c S u' ho.out.rd ho.out.len (by simp) (by omega) hS).mono ?_
    rintro e w' ⟨g2, c2, M2, rfl, h1, h2⟩
    exact ⟨g2, c2, M2, rfl, h1, h2⟩
  go_enter Tryd.func19, Tryd.ntmps19
  go_upto_region 1 with fail
  rw [HW.out]
  obtain ⟨d0, d1⟩ := HB.out
  have HDR : Hid (∀ n, W.grownBy (W.drewN n) none) := fun n => gb_drewN W n
  go_region_held3 (fun u => u.cell? ⟨w.heap.size, 0, none⟩ = some (.string x) ∧ u.cell? ⟨w.heap.size, 1, none⟩ = some (.int .i64 S)) (first | exact ⟨d0, d1⟩ | (refine ⟨?_, ?_⟩ <;> assumption)) (first
    | (go_at_call 43; refine (HP.out _ (HDR.out 1)).mono ?_; rintro e w5 ⟨g, c, M, rfl, ho5, hg5⟩; have k0 := hg5.out.cell d0 (by simp); have k1 := hg5.out.cell d1 (by simp))
    | (go_at_call 42; refine (HI.out _ _ g c M ho5).mono ?_; rintro e w6 ⟨g2, c2, M2, rfl, ho6, hg6⟩; have m0 := hg6.out.cell k0 (by simp); have m1 := hg6.out.cell k1 (by simp)))
  go_wp2
  go_ret
  have e1 : w.grownBy w6 none := ((HG.out.trans (HDR.out 1)).trans hg5.out).trans hg6.out
  refine ⟨g2, c2, M2, rfl, ?_, e1⟩
  exact Own.base ho6.out (((HG.out.trans (HDR.out 1)).trans hg5.out).size)

set_option maxHeartbeats 1000000 in
theorem r_encodeL (x : ByteArray) (S : Int) (w : World) (hx : x.size ≤ 140737488351232) (hS : -9223372036854775808 ≤ S ∧ S ≤ 9223372036854775807) :
    Calls Tryd.prog 20 #[leadV x S] w fun e w' => ∃ g c M, e = .returned (.slice (some ⟨g, 0, none⟩) M c) ∧ Own w' w.heap.size g M c (leadR x S) ∧ w.grownBy w' none := by
  obtain ⟨W, hW⟩ : ∃ W, W = w.alloc (.cells #[.string x, .int .i64 S] 32) := ⟨_, rfl⟩
  have HG : Hid (w.grownBy W none) := hW ▸ World.grownBy_alloc w _ none
  have HB : Hid (W.cell? ⟨w.heap.size, 0, none⟩ = some (.string x) ∧ W.cell? ⟨w.heap.size, 1, none⟩ = some (.int .i64 S)) := by
    rw [hW]
    refine ⟨?_, ?_⟩
    · rw [cell_of_row _ w.heap.size 0 _ _ _ (heap_alloc_new w _)]; rfl
    · rw [cell_of_row _ w.heap.size 1 _ _ _ (heap_alloc_new w _)]; rfl
  have HW : Hid (w.alloc (.cells #[.string x, .int .i64 S] 32) = W) := hW.symm
  clear hW
  have HP : Hid (∀ u, W.grownBy u none → Calls Tryd.prog 45 #[.slice none 0 0, .string x] u fun e w' => ∃ g c M, e = .returned (.slice (some ⟨g, 0, none⟩) M c) ∧ Hid (Own w' u.heap.size g M c (enc x.size ++ sInts x)) ∧ Hid (u.grownBy w' none)) := fun u hu => by
    refine (rputtext none [] 0 0 x u (rd_nil9 u) rfl (fun _ => rfl) (by omega)).mono ?_
    rintro e w' ⟨g, c, M, rfl, h1, h2⟩
    exact ⟨g, c, M, rfl, by rw [List.nil_append] at h1; exact h1, h2⟩
  have HI : Hid (∀ (u u' : World) (g c M : Nat), Hid (Own u' u.heap.size g M c (enc x.size ++ sInts x)) → Calls Tryd.prog 44 #[.slice (some ⟨g, 0, none⟩) M c, .int .i64 S] u' fun e w' => ∃ g2 c2 M2, e = .returned (.slice (some ⟨g2, 0, none⟩) M2 c2) ∧ Hid (Own w' u'.heap.size g2 M2 c2 (leadR x S)) ∧ Hid (u'.grownBy w' none)) := fun u u' g c M ho => by
    have hl := ho.out.len
    have h1 := enc_len x.size (by omega)
    have h2 := sInts_len x
    rw [List.length_append] at hl
    refine (rputint (some ⟨g, 0, none⟩) (enc x.size ++ sInts x) M c S u' ho.out.rd ho.out.len (by simp) (by omega) hS).mono ?_
    rintro e w' ⟨g2, c2, M2, rfl, h1, h2⟩
    exact ⟨g2, c2, M2, rfl, h1, h2⟩
  go_enter Tryd.func20, Tryd.ntmps20
  go_upto_region 1 with fail
  rw [HW.out]
  obtain ⟨d0, d1⟩ := HB.out
  have HDR : Hid (∀ n, W.grownBy (W.drewN n) none) := fun n => gb_drewN W n
  go_region_held3 (fun u => u.cell? ⟨w.heap.size, 0, none⟩ = some (.string x) ∧ u.cell? ⟨w.heap.size, 1, none⟩ = some (.int .i64 S)) (first | exact ⟨d0, d1⟩ | (refine ⟨?_, ?_⟩ <;> assumption)) (first
    | (go_at_call 45; refine (HP.out _ (HDR.out 1)).mono ?_; rintro e w5 ⟨g, c, M, rfl, ho5, hg5⟩; have k0 := hg5.out.cell d0 (by simp); have k1 := hg5.out.cell d1 (by simp))
    | (go_at_call 44; refine (HI.out _ _ g c M ho5).mono ?_; rintro e w6 ⟨g2, c2, M2, rfl, ho6, hg6⟩; have m0 := hg6.out.cell k0 (by simp); have m1 := hg6.out.cell k1 (by simp)))
  go_wp2
  go_ret
  have e1 : w.grownBy w6 none := ((HG.out.trans (HDR.out 1)).trans hg5.out).trans hg6.out
  refine ⟨g2, c2, M2, rfl, ?_, e1⟩
  exact Own.base ho6.out (((HG.out.trans (HDR.out 1)).trans hg5.out).size)

end Go.Proofs.YtecnocdffhmkaaaDoor
