/- Package disk: the small calls; names. -/
import Derived.Test.YtdnkdopjlobklaaDk
namespace Go.Proofs.Ytdnkdopjlobklaa
open Go.RowKit Go.Maps
set_option linter.unusedVariables false
set_option maxRecDepth 20000

abbrev DRow (w : World) (d mb : Nat) (off set : Bool) (ah kp wr : Int) : Prop := w.rowIs d 61 6 (DiskF mb off set ah kp wr)
theorem DRow.cells {w : World} {d mb : Nat} {off set : Bool} {ah kp wr : Int} (h : DRow w d mb off set ah kp wr) :
    w.cell? ⟨d, 0, none⟩ = some (.map (some mb)) ∧ w.cell? ⟨d, 1, none⟩ = some (.bool off) ∧ w.cell? ⟨d, 2, none⟩ = some (.bool set) ∧ w.cell? ⟨d, 3, none⟩ = some (.int .i64 ah) ∧ w.cell? ⟨d, 4, none⟩ = some (.int .i64 kp) ∧ w.cell? ⟨d, 5, none⟩ = some (.int .u64 wr) :=
  ⟨h.cell (i := 0) (by omega), h.cell (i := 1) (by omega), h.cell (i := 2) (by omega), h.cell (i := 3) (by omega), h.cell (i := 4) (by omega), h.cell (i := 5) (by omega)⟩
theorem six {P : Nat → Prop} (h0 : P 0) (h1 : P 1) (h2 : P 2) (h3 : P 3) (h4 : P 4) (h5 : P 5) : ∀ j, j < 6 → P j := by
  intro j hj
  match j, hj with
  | 0, _ => exact h0
  | 1, _ => exact h1
  | 2, _ => exact h2
  | 3, _ => exact h3
  | 4, _ => exact h4
  | 5, _ => exact h5
theorem d_new (w : World) : Calls Try.prog 8 #[] w fun e w' => ∃ d mb, e = .returned (.pointer (some ⟨d, 0, none⟩)) ∧ DRow w' d mb false false 0 0 0 ∧ MapIs w' mb 0 (fun _ => none) ∧ w.heap.size ≤ d ∧ w.heap.size ≤ mb ∧ w.grownBy w' none := by
  have hmm := @run_makeMap Try.prog
  go_enter Try.func8, Try.ntmps8
  go_wp2
  go_ret
  have hs1 : ∀ (w : World) o, (w.alloc o).heap.size = w.heap.size + 1 := fun w o => Array.size_push _
  have hg2 := World.grownBy_alloc (w.alloc (.map #[] 0)) (.cells #[.map (some w.heap.size), .bool false, .bool false, .int .i64 0, .int .i64 0, .int .u64 0] 61) none
  refine ⟨(w.alloc (.map #[] 0)).heap.size, w.heap.size, by rw [hs1]; rfl, ?_, (MapIs.made w).kept hg2 (by simp), by rw [hs1]; omega, Nat.le_refl _, (World.grownBy_alloc w _ none).trans hg2⟩
  exact World.rowIs_alloc (w.alloc (.map #[] 0)) #[.map (some w.heap.size), .bool false, .bool false, .int .i64 0, .int .i64 0, .int .u64 0] 61 _ (six rfl rfl rfl rfl rfl rfl)
theorem d_up (d mb : Nat) (off set : Bool) (ah kp wr : Int) (w : World) (h : DRow w d mb off set ah kp wr) : Calls Try.prog 23 #[.pointer (some ⟨d, 0, none⟩)] w fun e w' => e = .returned (.bool !off) ∧ w = w' := by
  obtain ⟨c0, c1, c2, c3, c4, c5⟩ := h.cells
  clear h
  go_enter Try.func23, Try.ntmps23
  go_wp2
  go_ret
  exact ⟨rfl, rfl⟩
theorem d_writes (d mb : Nat) (off set : Bool) (ah kp wr : Int) (w : World) (h : DRow w d mb off set ah kp wr) : Calls Try.prog 24 #[.pointer (some ⟨d, 0, none⟩)] w fun e w' => e = .returned (.int .u64 wr) ∧ w = w' := by
  obtain ⟨c0, c1, c2, c3, c4, c5⟩ := h.cells
  clear h
  go_enter Try.func24, Try.ntmps24
  go_wp2
  go_ret
  exact ⟨rfl, rfl⟩
theorem d_on (d mb : Nat) (off set : Bool) (ah kp wr : Int) (w : World) (h : DRow w d mb off set ah kp wr) : Calls Try.prog 21 #[.pointer (some ⟨d, 0, none⟩)] w fun e w' => e = .returned (.tuple #[]) ∧ DRow w' d mb false set ah kp wr ∧ w.grownBy w' (some d) := by
  obtain ⟨c0, c1, c2, c3, c4, c5⟩ := h.cells
  have f1 := h.frozen 1
  have HS : Hid (DRow (w.setCell ⟨d, 1, none⟩ (.bool false)) d mb false set ah kp wr) := (h.set 1 (.bool false)).congr (six rfl rfl rfl rfl rfl rfl)
  clear h
  go_enter Try.func21, Try.ntmps21
  go_wp2
  go_end0
  exact ⟨rfl, HS.out, gb_set rfl⟩
theorem d_disarm (d mb : Nat) (off set : Bool) (ah kp wr : Int) (w : World) (h : DRow w d mb off set ah kp wr) : Calls Try.prog 49 #[.pointer (some ⟨d, 0, none⟩)] w fun e w' => e = .returned (.tuple #[]) ∧ DRow w' d mb off false 0 0 wr ∧ w.grownBy w' (some d) := by
  obtain ⟨c0, c1, c2, c3, c4, c5⟩ := h.cells
  have f2 := h.frozen 2
  have f3 := h.frozen 3
  have f4 := h.frozen 4
  have HS : Hid (DRow (((w.setCell ⟨d, 2, none⟩ (.bool false)).setCell ⟨d, 3, none⟩ (.int .i64 0)).setCell ⟨d, 4, none⟩ (.int .i64 0)) d mb off false 0 0 wr) := (((h.set 2 (.bool false)).set 3 (.int .i64 0)).set 4 (.int .i64 0)).congr (six rfl rfl rfl rfl rfl rfl)
  have HG : Hid (w.grownBy (((w.setCell ⟨d, 2, none⟩ (.bool false)).setCell ⟨d, 3, none⟩ (.int .i64 0)).setCell ⟨d, 4, none⟩ (.int .i64 0)) (some d)) := gb_trans (gb_trans (gb_set rfl) (gb_set rfl) (fun k hk => .inr hk)) (gb_set rfl) (fun k hk => .inr hk)
  clear h
  go_enter Try.func49, Try.ntmps49
  go_wp2
  go_end0
  exact ⟨rfl, HS.out, HG.out⟩
theorem d_arm (d mb : Nat) (off set : Bool) (ah kp wr ah' kp' : Int) (w : World) (h : DRow w d mb off set ah kp wr) (h0 : 0 ≤ ah') : Calls Try.prog 18 #[.pointer (some ⟨d, 0, none⟩), .int .i64 ah', .int .i64 kp'] w fun e w' => e = .returned (.tuple #[]) ∧ DRow w' d mb off true ah' kp' wr ∧ w.grownBy w' (some d) := by
  obtain ⟨c0, c1, c2, c3, c4, c5⟩ := h.cells
  have f2 := h.frozen 2
  have f3 := h.frozen 3
  have f4 := h.frozen 4
  have HS : Hid (DRow (((w.setCell ⟨d, 2, none⟩ (.bool true)).setCell ⟨d, 3, none⟩ (.int .i64 ah')).setCell ⟨d, 4, none⟩ (.int .i64 kp')) d mb off true ah' kp' wr) := (((h.set 2 (.bool true)).set 3 (.int .i64 ah')).set 4 (.int .i64 kp')).congr (six rfl rfl rfl rfl rfl rfl)
  have HG : Hid (w.grownBy (((w.setCell ⟨d, 2, none⟩ (.bool true)).setCell ⟨d, 3, none⟩ (.int .i64 ah')).setCell ⟨d, 4, none⟩ (.int .i64 kp')) (some d)) := gb_trans (gb_trans (gb_set rfl) (gb_set rfl) (fun k hk => .inr hk)) (gb_set rfl) (fun k hk => .inr hk)
  have q0 : decide (ah' < 0) = false := by simp; omega
  clear h
  go_enter Try.func18, Try.ntmps18
  go_wp2
  go_end0
  exact ⟨rfl, HS.out, HG.out⟩
/-- The bytes of a name. -/
def nameC (z : Int) : Bool := decide (97 ≤ z) && decide (z ≤ 122) || decide (48 ≤ z) && decide (z ≤ 57) || decide (z = 47) || decide (z = 46) || decide (z = 45)
def nameB (s : ByteArray) : Bool := decide (1 ≤ s.size) && decide (s.size ≤ 64) && (sInts s).all nameC
set_option maxHeartbeats 4000000 in
theorem d_nameByte (z : Int) (w : World) : Calls Try.prog 67 #[.int .u8 z] w fun e w' => e = .returned (.bool (nameC z)) ∧ w = w' := by
  go_enter Try.func67, Try.ntmps67
  go_wp2
  all_goals go_ret
  all_goals refine ⟨ret_bool ?_, rfl⟩
  all_goals (rw [Bool.eq_iff_iff]; simp only [nameC, Bool.or_eq_true, Bool.and_eq_true, decide_eq_true_eq, beq_iff_eq, true_iff]; first | omega | decide | simp)
theorem all_take (s : ByteArray) (k : Nat) (hk : k < s.size) : ((sInts s).take (k + 1)).all nameC = (((sInts s).take k).all nameC && nameC (byteAt s k)) := by
  have hl := sInts_len s
  rw [List.take_add_one, List.getElem?_eq_getElem (by omega), List.all_append]
  congr 1
  simp [byteAt, List.getD, List.getElem?_eq_getElem (show k < (sInts s).length by omega)]
set_option maxHeartbeats 4000000 in
theorem d_isName (s : ByteArray) (hs : (s.size : Int) ≤ 9223372036854775807) (w : World) : Calls Try.prog 62 #[.string s] w fun e w' => e = .returned (.bool (nameB s)) ∧ w = w' := by
  have HB := fun (z : Int) (w : World) => d_nameByte z w
  by_cases h1 : 1 ≤ s.size
  · by_cases h2 : s.size ≤ 64
    · have q1 : decide ((s.size : Int) < 1) = false := by simp; omega
      have q2 : decide ((64 : Int) < (s.size : Int)) = false := by simp; omega
      have hix := fun i hi w => idx9 s i hi w
      have HN : Hid (nameB s = (sInts s).all nameC) := by
        show _ = _
        unfold nameB
        rw [decide_eq_true h1, decide_eq_true h2]
        simp
      go_enter Try.func62, Try.ntmps62
      go_wp2
      go_loopw [14] (fun i wr => ∃ k : Nat, k ≤ s.size ∧ i = .int .i64 k ∧ ((sInts s).take k).all nameC = true ∧ wr = w) (fun i _ => s.size - (intOf i).toNat)
      case atStart => exact ⟨0, Nat.zero_le _, rfl, rfl, rfl⟩
      case round =>
        obtain ⟨k, hk, rfl, hall, rfl⟩ := hrel
        have HALL : Hid (((sInts s).take k).all nameC = true) := hall
        clear hall
        by_cases hlt : k < s.size
        · have hi : (k : Int) < (s.size : Int) := by omega
          have hix2 := hix k hlt wr
          have HT : Hid (((sInts s).take (k + 1)).all nameC = (((sInts s).take k).all nameC && nameC (byteAt s k))) := all_take s k hlt
          clear hix
          go_wp2_with fail
          refine (HB _ _).mono ?_
          rintro e w' ⟨rfl, rfl⟩
          cases hc : nameC (byteAt s k) with
          | true =>
            have HC : Hid (((sInts s).take (k + 1)).all nameC = true) := by show _ = _; rw [HT.out, HALL.out, hc]; rfl
            clear hc HT
            go_wp2
            go_roundw
            case rel => exact ⟨k + 1, by omega, by go_num, HC.out, (by trivial)⟩
            case measure => simp [intOf]; omega
          | false =>
            have HC : Hid ((sInts s).all nameC = false) := by
              show _ = _
              rw [← List.take_append_drop (k + 1) (sInts s), List.all_append, HT.out, HALL.out, hc]
              rfl
            clear hc HT
            go_wp2
            go_ret
            exact ⟨ret_bool (by rw [HN.out, HC.out]), rfl⟩
        · have hkk : k = s.size := by omega
          have HC : Hid ((sInts s).all nameC = true) := by
            have h := HALL.out
            rw [hkk, ← sInts_len s, List.take_length] at h
            exact h
          have hi : ¬ (k : Int) < (s.size : Int) := by omega
          clear hix
          go_wp2
          go_ret
          exact ⟨ret_bool (by rw [HN.out, HC.out]), rfl⟩
    · have q1 : decide ((s.size : Int) < 1) = false := by simp; omega
      have q2 : decide ((64 : Int) < (s.size : Int)) = true := by simp; omega
      have HN : Hid (nameB s = false) := by
        show _ = _
        unfold nameB
        rw [decide_eq_false h2]
        simp
      go_enter Try.func62, Try.ntmps62
      go_wp2
      go_ret
      exact ⟨ret_bool HN.out.symm, rfl⟩
  · have q1 : decide ((s.size : Int) < 1) = true := by simp; omega
    have HN : Hid (nameB s = false) := by
      show _ = _
      unfold nameB
      rw [decide_eq_false h1]
      simp
    go_enter Try.func62, Try.ntmps62
    go_wp2
    go_ret
    exact ⟨ret_bool HN.out.symm, rfl⟩
end Go.Proofs.Ytdnkdopjlobklaa
