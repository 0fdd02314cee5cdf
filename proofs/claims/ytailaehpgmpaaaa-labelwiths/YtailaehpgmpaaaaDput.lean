/- The program's PutUint, PutInt, PutText, Frame. -/
import Derived.Test.YtailaehpgmpaaaaDcat
import Derived.Test.YtailaehpgmpaaaaCtext
import Derived.Lib.ConvBytes
namespace Go.Proofs.Ytailaehpgmpaaaa
open Go.RowKit
set_option linter.unusedVariables false

theorem g_join (ps : List Piece) (k : Nat) (w : World) (t : TypeId) (arr : Array Value) (harr : arr = (ps.map Piece.val).toArray) (hk : ps.length = k) (hk8 : k ≤ 8) (hok : ∀ p ∈ ps, p.ok w) (hsz : total ps ≤ 140737488355328) (hpos : 0 < total ps) :
    Calls Try.prog 69 #[.slice (some ⟨w.heap.size, 0, none⟩) k k] (w.alloc (.cells arr t)) fun e w' => ∃ g c N, e = .returned (.slice (some ⟨g, 0, none⟩) N c) ∧ Own w' w.heap.size g N c (joined ps) ∧ w.grownBy w' none := by
  refine (g_concat w.heap.size ps k (w.alloc (.cells arr t)) hk hk8 ?_ ?_ hsz hpos).mono ?_
  · intro i p h
    rw [cell_of_row _ w.heap.size i arr t _ (heap_alloc_new w _), harr]
    simp [h]
  · intro p hp
    have h := hok p hp
    exact ⟨h.1.grown (World.grownBy_alloc w _ none) (by simp), h.2⟩
  · rintro e w' ⟨g, c, N, rfl, ho, hg⟩
    exact ⟨g, c, N, rfl, ho.base (le_alloc (Nat.le_refl _)), (World.grownBy_alloc w _ none).trans hg⟩

theorem f_putuint (a : Option Addr) (zs : List Int) (L cap : Nat) (v : Int) (w : World) (hr : Rd w a zs) (hL : zs.length = L) (hnil : a = none → cap = 0) (hz : L ≤ 140737488355000) (hv : 0 ≤ v ∧ v ≤ 18446744073709551615) :
    Calls Try.prog 41 #[.slice a L cap, .int .u64 v] w fun e w' => ∃ g c N, e = .returned (.slice (some ⟨g, 0, none⟩) N c) ∧ Own w' w.heap.size g N c (zs ++ enc v.toNat) ∧ w.grownBy w' none := by
  have HC := g_number v w hv
  have HY : Hid ((enc v.toNat).length ≤ 10 ∧ 1 ≤ (enc v.toNat).length) := ⟨enc_len v.toNat (by omega), enc_len_pos _⟩
  generalize enc v.toNat = Y at HC HY ⊢
  have HJ : Hid (∀ g1 c1 N1 w1, Own w1 w.heap.size g1 N1 c1 Y → w.grownBy w1 none → ∀ t, Calls Try.prog 69 #[.slice (some ⟨w1.heap.size, 0, none⟩) 2 2] (w1.alloc (.cells #[.slice a L cap, .slice (some ⟨g1, 0, none⟩) N1 c1] t)) fun e w' => ∃ g c N, e = .returned (.slice (some ⟨g, 0, none⟩) N c) ∧ Own w' w.heap.size g N c (zs ++ Y) ∧ w.grownBy w' none) := by
    intro g1 c1 N1 w1 ho hg t
    have hl := ho.len
    have hy := HY.out
    refine (g_join [⟨a, L, cap, zs⟩, ⟨some ⟨g1, 0, none⟩, N1, c1, Y⟩] 2 w1 t _ rfl rfl (by omega) ?_ (by simp [total]; omega) (by simp [total]; omega)).mono ?_
    · intro p hp
      simp only [List.mem_cons, List.mem_nil_iff, or_false] at hp
      rcases hp with rfl | rfl
      · exact ⟨hr.grown hg (by simp), hL, hnil⟩
      · exact ⟨ho.rd, ho.len, by simp⟩
    · rintro e w' ⟨g, c, N, rfl, ho', hg'⟩
      refine ⟨g, c, N, rfl, ?_, hg.trans hg'⟩
      have := ho'.base hg.size
      simpa [joined] using this
  clear hr hL hnil HY
  go_enter Try.func41, Try.ntmps41
  go_wp2_with fail
  refine HC.mono ?_
  rintro e w1 ⟨g1, c1, N1, rfl, ho1, hg1⟩
  have HO1 : Hid (Own w1 w.heap.size g1 N1 c1 Y) := ho1
  have HG1 : Hid (w.grownBy w1 none) := hg1
  clear ho1 hg1
  go_wp2_with (go_at_call 69; refine (HJ.out _ _ _ _ HO1.out HG1.out _).mono ?_; rintro e w2 ⟨g2, c2, N2, rfl, ho2, hg2⟩)
  go_ret
  exact ⟨g2, c2, N2, rfl, ho2, hg2⟩

theorem conv_text (w : World) (s : ByteArray) : ∃ C w2, (convert 9 26 (.string s)).run Try.prog w = .ok (.slice (some ⟨w.heap.size, 0, none⟩) s.size C) w2 ∧ Rd w2 (some ⟨w.heap.size, 0, none⟩) (sInts s) ∧ w.grownBy w2 none := by
  refine ⟨_, _, Go.Lib.run_convert_string_bytes w 9 26 5 s Try.underlying9 Try.underlying26 Try.underlying5, ⟨.inr ⟨w.heap.size, 0, rfl, fun i hi => ?_⟩, sInts_byte s⟩, ?_⟩
  · rw [sInts_len] at hi
    rw [Nat.zero_add, Go.Lib.bytesWorld_cell w 5 s i hi]
    simp [sInts, List.getD_eq_getElem?_getD, hi]
  · exact ⟨rfl, rfl, rfl, by rw [Go.Lib.bytesWorld_size]; omega, fun k hk _ => Go.Lib.bytesWorld_at_old w 5 s k hk⟩

set_option maxHeartbeats 400000 in
theorem f_puttext (a : Option Addr) (zs : List Int) (L cap : Nat) (s : ByteArray) (w : World) (hr : Rd w a zs) (hL : zs.length = L) (hnil : a = none → cap = 0) (hz : L + s.size ≤ 140737488355000) :
    Calls Try.prog 42 #[.slice a L cap, .string s] w fun e w' => ∃ g c N, e = .returned (.slice (some ⟨g, 0, none⟩) N c) ∧ Own w' w.heap.size g N c (zs ++ enc s.size ++ sInts s) ∧ w.grownBy w' none := by
  have HC := g_number (s.size : Int) w (by omega)
  rw [Int.toNat_natCast] at HC
  have HY : Hid ((enc s.size).length ≤ 10 ∧ 1 ≤ (enc s.size).length) := ⟨enc_len s.size (by omega), enc_len_pos _⟩
  generalize enc s.size = Y at HC HY ⊢
  have HJ : Hid (∀ g1 c1 N1 w1 c2 w2, Own w1 w.heap.size g1 N1 c1 Y → w.grownBy w1 none → w1.grownBy w2 none → Rd w2 (some ⟨w1.heap.size, 0, none⟩) (sInts s) → ∀ t, Calls Try.prog 69 #[.slice (some ⟨w2.heap.size, 0, none⟩) 3 3] (w2.alloc (.cells #[.slice a L cap, .slice (some ⟨g1, 0, none⟩) N1 c1, .slice (some ⟨w1.heap.size, 0, none⟩) s.size c2] t)) fun e w' => ∃ g c N, e = .returned (.slice (some ⟨g, 0, none⟩) N c) ∧ Own w' w.heap.size g N c (zs ++ Y ++ sInts s) ∧ w.grownBy w' none) := by
    intro g1 c1 N1 w1 c2 w2 ho hg hg12 hrd t
    have hl := ho.len
    have hy := HY.out
    have hgg := hg.trans hg12
    refine (g_join [⟨a, L, cap, zs⟩, ⟨some ⟨g1, 0, none⟩, N1, c1, Y⟩, ⟨some ⟨w1.heap.size, 0, none⟩, s.size, c2, sInts s⟩] 3 w2 t _ rfl rfl (by omega) ?_ (by simp [total]; omega) (by simp [total]; omega)).mono ?_
    · intro p hp
      simp only [List.mem_cons, List.mem_nil_iff, or_false] at hp
      rcases hp with rfl | rfl | rfl
      · exact ⟨hr.grown hgg (by simp), hL, hnil⟩
      · exact ⟨ho.rd.grown hg12 (by simp), ho.len, by simp⟩
      · exact ⟨hrd, sInts_len s, by simp⟩
    · rintro e w' ⟨g, c, N, rfl, ho', hg'⟩
      refine ⟨g, c, N, rfl, ?_, hgg.trans hg'⟩
      have := ho'.base hgg.size
      simpa [joined] using this
  clear hr hL hnil HY
  go_enter Try.func42, Try.ntmps42
  go_wp2_with fail
  refine HC.mono ?_
  rintro e w1 ⟨g1, c1, N1, rfl, ho1, hg1⟩
  have HO1 : Hid (Own w1 w.heap.size g1 N1 c1 Y) := ho1
  have HG1 : Hid (w.grownBy w1 none) := hg1
  obtain ⟨C, w2, hcv, hrd, hg12⟩ := conv_text w1 s
  have HRD : Hid (Rd w2 (some ⟨w1.heap.size, 0, none⟩) (sInts s)) := hrd
  have HG12 : Hid (w1.grownBy w2 none) := hg12
  clear ho1 hg1 hrd hg12
  go_wp2_with (go_at_call 69; refine (HJ.out _ _ _ _ _ _ HO1.out HG1.out HG12.out HRD.out _).mono ?_; rintro e w3 ⟨g2, c2, N2, rfl, ho2, hg2⟩)
  go_ret
  exact ⟨g2, c2, N2, rfl, ho2, hg2⟩

end Go.Proofs.Ytailaehpgmpaaaa
