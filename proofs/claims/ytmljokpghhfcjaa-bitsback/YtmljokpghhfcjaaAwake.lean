/- What every program answers that is one. -/
import Derived.Test.YtmljokpghhfcjaaRefapp
namespace Go.Proofs.Ytmljokpghhfcjaa
open Go.RowKit

theorem aw_append (w : World) : Calls Try.prog 10 #[.slice none 0 0, .int .i64 0, .int .u64 5, .int .i64 3] w fun e w' => ∃ g c, e = .returned (.tuple #[.slice (some ⟨g, 0, none⟩) 1 c, .int .i64 3, .bool true]) ∧ Own w' w.heap.size g 1 c [160] ∧ w.grownBy w' none := by
  have h := append_yes none [] 0 0 3 5 w ⟨.inl rfl, by simp⟩ (by simp) (by omega) (by decide) (by omega)
  have e : app [] 0 5 3 = [160] := by decide +kernel
  rw [e] at h
  exact h

theorem aw_read (w : World) : Calls Try.prog 19 #[.slice (some ⟨w.heap.size, 0, none⟩) 2 2, .int .i64 9, .int .i64 2, .int .i64 7] (w.alloc (.cells #[.int .u8 160, .int .u8 128] 5)) fun e w' => e = .returned (.tuple #[.int .u64 65, .bool true]) ∧ w.alloc (.cells #[.int .u8 160, .int .u8 128] 5) = w' := by
  have h := read_yes (some ⟨w.heap.size, 0, none⟩) [160, 128] 2 9 2 7 (w.alloc (.cells #[.int .u8 160, .int .u8 128] 5)) (rd_lit w [160, 128] (by simp)) (by omega) (by simp) (by decide)
  have e : rdv [160, 128] 2 7 = 65 := by decide +kernel
  rw [e] at h
  exact h

theorem aw_whole (w : World) (z : Int) (hz : 0 ≤ z ∧ z ≤ 255) : Calls Try.prog 11 #[.slice (some ⟨w.heap.size, 0, none⟩) 1 1, .int .i64 3] (w.alloc (.cells #[.int .u8 z] 5)) fun e w' => e = .returned (.bool (wholeB [z] 3)) ∧ w.alloc (.cells #[.int .u8 z] 5) = w' :=
  whole_any (some ⟨w.heap.size, 0, none⟩) [z] 1 3 (w.alloc (.cells #[.int .u8 z] 5)) (rd_lit w [z] (by simpa using hz)) (by omega)

theorem wb160 : wholeB [160] 3 = true := by decide +kernel
theorem wb161 : wholeB [161] 3 = false := by decide +kernel

set_option maxHeartbeats 400000 in
theorem awake_any (w : World) : Calls Try.prog 17 #[] w fun e w' => e = .returned (.bool true) ∧ w.grownBy w' none := by
  go_enter Try.func17, Try.ntmps17
  go_wp2_with fail
  refine (aw_append _).mono ?_
  rintro e w1 ⟨g, c, rfl, ho, hg1⟩
  go_wp2_with fail
  refine (aw_read _).mono ?_
  rintro e w2 ⟨rfl, rfl⟩
  go_wp2_with fail
  have hs : (w1.alloc (.cells #[Value.int .u8 160, Value.int .u8 128] 5)).heap.size = w1.heap.size + 1 := by simp
  have hr2 := rd_lit (w1.alloc (.cells #[Value.int .u8 160, Value.int .u8 128] 5)) [160] (by simp)
  rw [hs] at hr2
  have hg2 : w.grownBy ((w1.alloc (.cells #[Value.int .u8 160, Value.int .u8 128] 5)).alloc (.cells #[Value.int .u8 160] 5)) none := gb_trans (gb_trans hg1 (World.grownBy_alloc w1 _ none) (by simp)) (World.grownBy_alloc _ _ none) (by simp)
  have hr1 : Rd ((w1.alloc (.cells #[Value.int .u8 160, Value.int .u8 128] 5)).alloc (.cells #[Value.int .u8 160] 5)) (some ⟨g, 0, none⟩) [160] := ((ho.kept (World.grownBy_alloc w1 _ none) (by simp)).kept (World.grownBy_alloc _ _ none) (by simp)).rd
  refine (same_any (some ⟨g, 0, none⟩) (some ⟨w1.heap.size + 1, 0, none⟩) [160] [160] 1 1 c 1 _ hr1 hr2 rfl rfl (by omega)).mono ?_
  rintro e w2 ⟨rfl, hg3⟩
  have htt : decide (([160] : List Int) = [160]) = true := by simp
  rw [htt]
  have hg4 := gb_trans hg2 hg3 (by simp)
  clear htt hs hr2 hg2 hr1 hg3 hg1 ho
  go_wp2_with fail
  refine (aw_whole w2 160 (by omega)).mono ?_
  rintro e w3 ⟨rfl, rfl⟩
  rw [wb160]
  go_wp2_with fail
  have hs : (w2.alloc (.cells #[Value.int .u8 160] 5)).heap.size = w2.heap.size + 1 := by simp
  have hw := aw_whole (w2.alloc (.cells #[Value.int .u8 160] 5)) 161 (by omega)
  rw [hs] at hw
  refine hw.mono ?_
  rintro e w3 ⟨rfl, rfl⟩
  rw [wb161]
  clear hs hw
  go_wp2
  go_ret
  exact ⟨rfl, gb_trans (gb_trans hg4 (World.grownBy_alloc w2 _ none) (by simp)) (World.grownBy_alloc _ _ none) (by simp)⟩
end Go.Proofs.Ytmljokpghhfcjaa
