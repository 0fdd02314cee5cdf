/- The program's PutUint, PutInt, PutText, Frame. -/
import Derived.Test.YtbhffjeoakalbaaGreatDoorDcat
import Derived.Test.YtbhffjeoakalbaaGreatDoorDtab
import Derived.Test.YtbhffjeoakalbaaGreatDoorCpre
import Derived.Lib.ConvBytes
namespace Go.Proofs.YtbhffjeoakalbaaGreatDoor
open Go.RowKit
set_option linter.unusedVariables false

theorem g_join (ps : List Piece) (k : Nat) (w : World) (t : TypeId) (arr : Array Value) (harr : arr = (ps.map Piece.val).toArray) (hk : ps.length = k) (hk8 : k ≤ 8) (hok : ∀ p ∈ ps, p.ok w) (hsz : total ps ≤ 140737488355328) (hpos : 0 < total ps) :
    Calls Tryz.prog 59 #[.slice (some ⟨w.heap.size, 0, none⟩) k k] (w.alloc (.cells arr t)) fun e w' => ∃ g c N, e = .returned (.slice (some ⟨g, 0, none⟩) N c) ∧ Own w' w.heap.size g N c (joined ps) ∧ w.grownBy w' none := by
  refine (g_concat w.heap.size ps k (w.alloc (.cells arr t)) hk hk8 ?_ ?_ hsz hpos).mono ?_
  · intro i p h
    rw [cell_of_row _ w.heap.size i arr t _ (heap_alloc_new w _), harr]
    simp [h]
  · intro p hp
    have h := hok p hp
    exact ⟨h.1.grown (World.grownBy_alloc w _ none) (by simp), h.2⟩
  · rintro e w' ⟨g, c, N, rfl, ho, hg⟩
    exact ⟨g, c, N, rfl, ho.base (le_alloc (Nat.le_refl _)), (World.grownBy_alloc w _ none).trans hg⟩

theorem conv_text (w : World) (s : ByteArray) : ∃ C w2, (convert 9 27 (.string s)).run Tryz.prog w = .ok (.slice (some ⟨w.heap.size, 0, none⟩) s.size C) w2 ∧ Rd w2 (some ⟨w.heap.size, 0, none⟩) (sInts s) ∧ w.grownBy w2 none := by
  refine ⟨_, _, Go.Lib.run_convert_string_bytes w 9 27 5 s Tryz.underlying9 Tryz.underlying27 Tryz.underlying5, ⟨.inr ⟨w.heap.size, 0, rfl, fun i hi => ?_⟩, sInts_byte s⟩, ?_⟩
  · rw [sInts_len] at hi
    rw [Nat.zero_add, Go.Lib.bytesWorld_cell w 5 s i hi]
    simp [sInts, List.getD_eq_getElem?_getD, hi]
  · exact ⟨rfl, rfl, rfl, by rw [Go.Lib.bytesWorld_size]; omega, fun k hk _ => Go.Lib.bytesWorld_at_old w 5 s k hk⟩

theorem g_four (c : Int) (w : World) (hc : 0 ≤ c ∧ c ≤ 4294967295) :
    Calls Tryz.prog 61 #[.int .u32 c] w fun e w' => ∃ g, e = .returned (.slice (some ⟨g, 0, none⟩) 4 4) ∧ Own w' w.heap.size g 4 4 (four c) ∧ w.grownBy w' none := by
  go_enter Tryz.func61, Tryz.ntmps61
  go_wp2
  go_ret
  refine ⟨w.heap.size, rfl, ?_, World.grownBy_alloc w _ _⟩
  exact Own.ofBlock (heap_alloc_new w _) (Nat.le_refl _) rfl (by decide) (four_byte c hc)

theorem frm_long (a : Option Addr) (L cap : Nat) (w : World) (hz : L ≤ 140737488355000) (h : 65536 < L) :
    Calls Tryz.prog 25 #[.slice a L cap] w fun e w' => e = .returned (.tuple #[.slice none 0 0, .int .i64 23]) ∧ w = w' := by
  have hd : decide ((65536 : Int) < (L : Int)) = true := by simp; omega
  go_enter Tryz.func25, Tryz.ntmps25
  go_wp2
  go_ret2
  exact ⟨rfl, rfl⟩

set_option maxHeartbeats 400000 in
theorem frm_short (a : Option Addr) (zs : List Int) (L cap : Nat) (w : World) (hr : Rd w a zs) (hL : zs.length = L) (hnil : a = none → cap = 0) (h : L ≤ 65536) :
    Calls Tryz.prog 25 #[.slice a L cap] w fun e w' => ∃ g c N, e = .returned (.tuple #[.slice (some ⟨g, 0, none⟩) N c, .int .i64 0]) ∧ Own w' w.heap.size g N c (frameR zs) ∧ w.grownBy w' none := by
  have hd : decide ((65536 : Int) < (L : Int)) = false := by simp; omega
  have HC := g_number (L : Int) w (by omega)
  rw [Int.toNat_natCast] at HC
  have HY : Hid ((enc L).length ≤ 10 ∧ 1 ≤ (enc L).length) := ⟨enc_len L (by omega), enc_len_pos _⟩
  have hF : frameR zs = enc L ++ four (sumR zs) ++ zs := by rw [frameR, hL]
  rw [hF]
  have hRb := sumR_bd zs hr.2
  have HS : Hid (∀ w1, w.grownBy w1 none → Calls Tryz.prog 62 #[.slice a L cap] w1 fun e w' => e = .returned (.int .u32 (sumR zs)) ∧ w1.grownBy w' none) := fun w1 hg => f_sum a zs L cap _ w1 (hr.grown hg (by simp)) hL (by omega) rfl
  generalize sumR zs = R at HS hRb ⊢
  generalize enc L = Y at HC HY ⊢
  have HJ : Hid (∀ g1 c1 N1 w1 g2 w2, Own w1 w.heap.size g1 N1 c1 Y → w.grownBy w1 none → w1.grownBy w2 none → Rd w2 (some ⟨g2, 0, none⟩) (four R) → ∀ t, Calls Tryz.prog 59 #[.slice (some ⟨w2.heap.size, 0, none⟩) 3 3] (w2.alloc (.cells #[.slice (some ⟨g1, 0, none⟩) N1 c1, .slice (some ⟨g2, 0, none⟩) 4 4, .slice a L cap] t)) fun e w' => ∃ g c N, e = .returned (.slice (some ⟨g, 0, none⟩) N c) ∧ Own w' w.heap.size g N c (Y ++ four R ++ zs) ∧ w.grownBy w' none) := by
    intro g1 c1 N1 w1 g2 w2 ho hg hg12 hrd t
    have hl := ho.len
    have hy := HY.out
    have hgg := hg.trans hg12
    refine (g_join [⟨some ⟨g1, 0, none⟩, N1, c1, Y⟩, ⟨some ⟨g2, 0, none⟩, 4, 4, four R⟩, ⟨a, L, cap, zs⟩] 3 w2 t _ rfl rfl (by omega) ?_ (by simp [total]; omega) (by simp [total]; omega)).mono ?_
    · intro p hp
      simp only [List.mem_cons, List.mem_nil_iff, or_false] at hp
      rcases hp with rfl | rfl | rfl
      · exact ⟨ho.rd.grown hg12 (by simp), ho.len, by simp⟩
      · exact ⟨hrd, rfl, by simp⟩
      · exact ⟨hr.grown hgg (by simp), hL, hnil⟩
    · rintro e w' ⟨g, c, N, rfl, ho', hg'⟩
      refine ⟨g, c, N, rfl, ?_, hgg.trans hg'⟩
      have := ho'.base hgg.size
      simpa [joined] using this
  have HRb : Hid (0 ≤ R ∧ R ≤ 4294967295) := hRb
  clear hr hL hnil HY hF hRb
  go_enter Tryz.func25, Tryz.ntmps25
  go_wp2_with fail
  refine HC.mono ?_
  rintro e w1 ⟨g1, c1, N1, rfl, ho1, hg1⟩
  have HO1 : Hid (Own w1 w.heap.size g1 N1 c1 Y) := ho1
  have HG1 : Hid (w.grownBy w1 none) := hg1
  clear ho1 hg1
  go_wp2_with fail
  refine (HS.out w1 HG1.out).mono ?_
  rintro e w2 ⟨rfl, hg2⟩
  have HG2 : Hid (w1.grownBy w2 none) := hg2
  clear hg2
  go_wp2_with fail
  refine (g_four R w2 HRb.out).mono ?_
  rintro e w3 ⟨g3, rfl, ho3, hg3⟩
  have HG3 : Hid (w1.grownBy w3 none) := HG2.out.trans hg3
  have HO3 : Hid (Rd w3 (some ⟨g3, 0, none⟩) (four R)) := ho3.rd
  clear ho3 hg3
  go_wp2_with (go_at_call 59; refine (HJ.out _ _ _ _ _ _ HO1.out HG1.out HG3.out HO3.out _).mono ?_; rintro e w4 ⟨g4, c4, N4, rfl, ho4, hg4⟩)
  go_ret2
  exact ⟨g4, c4, N4, rfl, ho4, hg4⟩

theorem f_frame (a : Option Addr) (zs : List Int) (L cap : Nat) (F : List Int) (r : Int) (w : World) (hr : Rd w a zs) (hL : zs.length = L) (hnil : a = none → cap = 0) (hz : L ≤ 140737488355000) (hF : flist zs = F) (hc : fcode zs = r) :
    Calls Tryz.prog 25 #[.slice a L cap] w fun e w' => ∃ v N c, e = .returned (.tuple #[.slice v N c, .int .i64 r]) ∧ Out w w' v N c F ∧ w.grownBy w' none := by
  unfold flist at hF
  unfold fcode at hc
  by_cases h : 65536 < zs.length
  · rw [if_pos h] at hF hc
    subst hF hc
    refine (frm_long a L cap w hz (by omega)).mono ?_
    rintro e w' ⟨rfl, rfl⟩
    exact ⟨none, 0, 0, rfl, Out.nil _ _, World.grownBy.refl _ _⟩
  · rw [if_neg h] at hF hc
    subst hF hc
    refine (frm_short a zs L cap w hr hL hnil (by omega)).mono ?_
    rintro e w' ⟨g, c, N, rfl, ho, hg⟩
    exact ⟨_, _, c, rfl, ho.out, hg⟩
end Go.Proofs.YtbhffjeoakalbaaGreatDoor
