/- Several texts in one: Dk1, Dk2, Dk3, Dk4, Dk5. -/
import Derived.Test.YtgpgkpciajajcaaGreatDoorGaa
import Derived.Maps.RangeWalk
/- Package disk: the small calls; names. -/
namespace Go.Proofs.YtgpgkpciajajcaaGreatDoor
open Go.RowKit Go.Maps
set_option linter.unusedVariables false
set_option maxRecDepth 20000

abbrev DRow (w : World) (d mb : Nat) (off set : Bool) (ah kp wr : Int) : Prop := w.rowIs d 64 6 (DiskF mb off set ah kp wr)
theorem DRow.cells {w : World} {d mb : Nat} {off set : Bool} {ah kp wr : Int} (h : DRow w d mb off set ah kp wr) :
    w.cell? ⟨d, 0, none⟩ = some (.map (some mb)) ∧ w.cell? ⟨d, 1, none⟩ = some (.bool off) ∧ w.cell? ⟨d, 2, none⟩ = some (.bool set) ∧ w.cell? ⟨d, 3, none⟩ = some (.int .i64 ah) ∧ w.cell? ⟨d, 4, none⟩ = some (.int .i64 kp) ∧ w.cell? ⟨d, 5, none⟩ = some (.int .u64 wr) :=
  ⟨h.cell (i := 0) (by omega), h.cell (i := 1) (by omega), h.cell (i := 2) (by omega), h.cell (i := 3) (by omega), h.cell (i := 4) (by omega), h.cell (i := 5) (by omega)⟩
theorem six {P : Nat → Prop} (h0 : P 0) (h1 : P 1) (h2 : P 2) (h3 : P 3) (h4 : P 4) (h5 : P 5) : ∀ j, j < 6 → P j := by
  intro j hj
  match j, hj with
  | 0, _ => exact h0
  | 1, _ => exact h1
  | 2, _ => exact h2
  | 3, _ => exact h3
  | 4, _ => exact h4
  | 5, _ => exact h5
theorem d_new (w : World) : Calls Tryz.prog 7 #[] w fun e w' => ∃ d mb, e = .returned (.pointer (some ⟨d, 0, none⟩)) ∧ DRow w' d mb false false 0 0 0 ∧ MapIs w' mb 0 (fun _ => none) ∧ w.heap.size ≤ d ∧ w.heap.size ≤ mb ∧ w.grownBy w' none := by
  have hmm := @run_makeMap Tryz.prog
  go_enter Tryz.func7, Tryz.ntmps7
  go_wp2
  go_ret
  have hs1 : ∀ (w : World) o, (w.alloc o).heap.size = w.heap.size + 1 := fun w o => Array.size_push _
  have hg2 := World.grownBy_alloc (w.alloc (.map #[] 0)) (.cells #[.map (some w.heap.size), .bool false, .bool false, .int .i64 0, .int .i64 0, .int .u64 0] 64) none
  refine ⟨(w.alloc (.map #[] 0)).heap.size, w.heap.size, by rw [hs1]; rfl, ?_, (MapIs.made w).kept hg2 (by simp), by rw [hs1]; omega, Nat.le_refl _, (World.grownBy_alloc w _ none).trans hg2⟩
  exact World.rowIs_alloc (w.alloc (.map #[] 0)) #[.map (some w.heap.size), .bool false, .bool false, .int .i64 0, .int .i64 0, .int .u64 0] 64 _ (six rfl rfl rfl rfl rfl rfl)
theorem d_up (d mb : Nat) (off set : Bool) (ah kp wr : Int) (w : World) (h : DRow w d mb off set ah kp wr) : Calls Tryz.prog 10 #[.pointer (some ⟨d, 0, none⟩)] w fun e w' => e = .returned (.bool !off) ∧ w = w' := by
  obtain ⟨c0, c1, c2, c3, c4, c5⟩ := h.cells
  clear h
  go_enter Tryz.func10, Tryz.ntmps10
  go_wp2
  go_ret
  exact ⟨rfl, rfl⟩
theorem d_on (d mb : Nat) (off set : Bool) (ah kp wr : Int) (w : World) (h : DRow w d mb off set ah kp wr) : Calls Tryz.prog 13 #[.pointer (some ⟨d, 0, none⟩)] w fun e w' => e = .returned (.tuple #[]) ∧ DRow w' d mb false set ah kp wr ∧ w.grownBy w' (some d) := by
  obtain ⟨c0, c1, c2, c3, c4, c5⟩ := h.cells
  have f1 := h.frozen 1
  have HS : Hid (DRow (w.setCell ⟨d, 1, none⟩ (.bool false)) d mb false set ah kp wr) := (h.set 1 (.bool false)).congr (six rfl rfl rfl rfl rfl rfl)
  clear h
  go_enter Tryz.func13, Tryz.ntmps13
  go_wp2
  go_end0
  exact ⟨rfl, HS.out, gb_set rfl⟩
theorem d_disarm (d mb : Nat) (off set : Bool) (ah kp wr : Int) (w : World) (h : DRow w d mb off set ah kp wr) : Calls Tryz.prog 30 #[.pointer (some ⟨d, 0, none⟩)] w fun e w' => e = .returned (.tuple #[]) ∧ DRow w' d mb off false 0 0 wr ∧ w.grownBy w' (some d) := by
  obtain ⟨c0, c1, c2, c3, c4, c5⟩ := h.cells
  have f2 := h.frozen 2
  have f3 := h.frozen 3
  have f4 := h.frozen 4
  have HS : Hid (DRow (((w.setCell ⟨d, 2, none⟩ (.bool false)).setCell ⟨d, 3, none⟩ (.int .i64 0)).setCell ⟨d, 4, none⟩ (.int .i64 0)) d mb off false 0 0 wr) := (((h.set 2 (.bool false)).set 3 (.int .i64 0)).set 4 (.int .i64 0)).congr (six rfl rfl rfl rfl rfl rfl)
  have HG : Hid (w.grownBy (((w.setCell ⟨d, 2, none⟩ (.bool false)).setCell ⟨d, 3, none⟩ (.int .i64 0)).setCell ⟨d, 4, none⟩ (.int .i64 0)) (some d)) := gb_trans (gb_trans (gb_set rfl) (gb_set rfl) (fun k hk => .inr hk)) (gb_set rfl) (fun k hk => .inr hk)
  clear h
  go_enter Tryz.func30, Tryz.ntmps30
  go_wp2
  go_end0
  exact ⟨rfl, HS.out, HG.out⟩
theorem d_arm (d mb : Nat) (off set : Bool) (ah kp wr ah' kp' : Int) (w : World) (h : DRow w d mb off set ah kp wr) (h0 : 0 ≤ ah') : Calls Tryz.prog 17 #[.pointer (some ⟨d, 0, none⟩), .int .i64 ah', .int .i64 kp'] w fun e w' => e = .returned (.tuple #[]) ∧ DRow w' d mb off true ah' kp' wr ∧ w.grownBy w' (some d) := by
  obtain ⟨c0, c1, c2, c3, c4, c5⟩ := h.cells
  have f2 := h.frozen 2
  have f3 := h.frozen 3
  have f4 := h.frozen 4
  have HS : Hid (DRow (((w.setCell ⟨d, 2, none⟩ (.bool true)).setCell ⟨d, 3, none⟩ (.int .i64 ah')).setCell ⟨d, 4, none⟩ (.int .i64 kp')) d mb off true ah' kp' wr) := (((h.set 2 (.bool true)).set 3 (.int .i64 ah')).set 4 (.int .i64 kp')).congr (six rfl rfl rfl rfl rfl rfl)
  have HG : Hid (w.grownBy (((w.setCell ⟨d, 2, none⟩ (.bool true)).setCell ⟨d, 3, none⟩ (.int .i64 ah')).setCell ⟨d, 4, none⟩ (.int .i64 kp')) (some d)) := gb_trans (gb_trans (gb_set rfl) (gb_set rfl) (fun k hk => .inr hk)) (gb_set rfl) (fun k hk => .inr hk)
  have q0 : decide (ah' < 0) = false := by simp; omega
  clear h
  go_enter Tryz.func17, Tryz.ntmps17
  go_wp2
  go_end0
  exact ⟨rfl, HS.out, HG.out⟩
/-- The bytes of a name. -/
def nameC (z : Int) : Bool := decide (97 ≤ z) && decide (z ≤ 122) || decide (48 ≤ z) && decide (z ≤ 57) || decide (z = 47) || decide (z = 46) || decide (z = 45)
def nameB (s : ByteArray) : Bool := decide (1 ≤ s.size) && decide (s.size ≤ 64) && (sInts s).all nameC
set_option maxHeartbeats 4000000 in
theorem d_nameByte (z : Int) (w : World) : Calls Tryz.prog 169 #[.int .u8 z] w fun e w' => e = .returned (.bool (nameC z)) ∧ w = w' := by
  go_enter Tryz.func169, Tryz.ntmps169
  go_wp2
  all_goals go_ret
  all_goals refine ⟨ret_bool ?_, rfl⟩
  all_goals (rw [Bool.eq_iff_iff]; simp only [nameC, Bool.or_eq_true, Bool.and_eq_true, decide_eq_true_eq, beq_iff_eq, true_iff]; first | omega | decide | simp)
theorem all_take (s : ByteArray) (k : Nat) (hk : k < s.size) : ((sInts s).take (k + 1)).all nameC = (((sInts s).take k).all nameC && nameC (byteAt s k)) := by
  have hl := sInts_len s
  rw [List.take_add_one, List.getElem?_eq_getElem (by omega), List.all_append]
  congr 1
  simp [byteAt, List.getD, List.getElem?_eq_getElem (show k < (sInts s).length by omega)]
set_option maxHeartbeats 4000000 in
theorem d_isName (s : ByteArray) (hs : (s.size : Int) ≤ 9223372036854775807) (w : World) : Calls Tryz.prog 148 #[.string s] w fun e w' => e = .returned (.bool (nameB s)) ∧ w = w' := by
  have HB := fun (z : Int) (w : World) => d_nameByte z w
  by_cases h1 : 1 ≤ s.size
  · by_cases h2 : s.size ≤ 64
    · have q1 : decide ((s.size : Int) < 1) = false := by simp; omega
      have q2 : decide ((64 : Int) < (s.size : Int)) = false := by simp; omega
      have hix := fun i hi w => idx9 s i hi w
      have HN : Hid (nameB s = (sInts s).all nameC) := by
        show _ = _
        unfold nameB
        rw [decide_eq_true h1, decide_eq_true h2]
        simp
      go_enter Tryz.func148, Tryz.ntmps148
      go_wp2
      go_loopw [14] (fun i wr => ∃ k : Nat, k ≤ s.size ∧ i = .int .i64 k ∧ ((sInts s).take k).all nameC = true ∧ wr = w) (fun i _ => s.size - (intOf i).toNat)
      case atStart => exact ⟨0, Nat.zero_le _, rfl, rfl, rfl⟩
      case round =>
        obtain ⟨k, hk, rfl, hall, rfl⟩ := hrel
        have HALL : Hid (((sInts s).take k).all nameC = true) := hall
        clear hall
        by_cases hlt : k < s.size
        · have hi : (k : Int) < (s.size : Int) := by omega
          have hix2 := hix k hlt wr
          have HT : Hid (((sInts s).take (k + 1)).all nameC = (((sInts s).take k).all nameC && nameC (byteAt s k))) := all_take s k hlt
          clear hix
          go_wp2_with fail
          refine (HB _ _).mono ?_
          rintro e w' ⟨rfl, rfl⟩
          cases hc : nameC (byteAt s k) with
          | true =>
            have HC : Hid (((sInts s).take (k + 1)).all nameC = true) := by show _ = _; rw [HT.out, HALL.out, hc]; rfl
            clear hc HT
            go_wp2
            go_roundw
            case rel => exact ⟨k + 1, by omega, by go_num, HC.out, (by trivial)⟩
            case measure => simp [intOf]; omega
          | false =>
            have HC : Hid ((sInts s).all nameC = false) := by
              show _ = _
              rw [← List.take_append_drop (k + 1) (sInts s), List.all_append, HT.out, HALL.out, hc]
              rfl
            clear hc HT
            go_wp2
            go_ret
            exact ⟨ret_bool (by rw [HN.out, HC.out]), rfl⟩
        · have hkk : k = s.size := by omega
          have HC : Hid ((sInts s).all nameC = true) := by
            have h := HALL.out
            rw [hkk, ← sInts_len s, List.take_length] at h
            exact h
          have hi : ¬ (k : Int) < (s.size : Int) := by omega
          clear hix
          go_wp2
          go_ret
          exact ⟨ret_bool (by rw [HN.out, HC.out]), rfl⟩
    · have q1 : decide ((s.size : Int) < 1) = false := by simp; omega
      have q2 : decide ((64 : Int) < (s.size : Int)) = true := by simp; omega
      have HN : Hid (nameB s = false) := by
        show _ = _
        unfold nameB
        rw [decide_eq_false h2]
        simp
      go_enter Tryz.func148, Tryz.ntmps148
      go_wp2
      go_ret
      exact ⟨ret_bool HN.out.symm, rfl⟩
  · have q1 : decide ((s.size : Int) < 1) = true := by simp; omega
    have HN : Hid (nameB s = false) := by
      show _ = _
      unfold nameB
      rw [decide_eq_false h1]
      simp
    go_enter Tryz.func148, Tryz.ntmps148
    go_wp2
    go_ret
    exact ⟨ret_bool HN.out.symm, rfl⟩
end Go.Proofs.YtgpgkpciajajcaaGreatDoor

/- Package disk: reach, find, hasRoom. -/
namespace Go.Proofs.YtgpgkpciajajcaaGreatDoor
open Go.RowKit Go.Maps
set_option linter.unusedVariables false
set_option maxRecDepth 20000

def strE : Elem ByteArray where
  cells s := [.string s]
  size := 1
  pos := by decide
  len _ := rfl
  one s v h := by
    simp only [List.mem_cons, List.mem_nil_iff, or_false] at h
    subst h
    rfl
theorem slit (w : World) (ls : List ByteArray) : SRd strE (w.alloc (.cells (strE.flat ls).toArray 9)) (some ⟨w.heap.size, 0, none⟩) ls := by
  refine .inr ⟨w.heap.size, 0, rfl, fun j v hj => ?_⟩
  rw [Nat.zero_add, cell_of_row _ w.heap.size j _ 9 _ (heap_alloc_new w _)]
  simpa using hj
def reachC (off : Bool) (l : List ByteArray) : Int := if off = true then 60 else if l.all nameB = true then 0 else 61
theorem all_takeN (l : List ByteArray) (k : Nat) (s : ByteArray) (hk : l[k]? = some s) : (l.take (k + 1)).all nameB = ((l.take k).all nameB && nameB s) := by
  rw [List.take_add_one, hk, List.all_append]
  simp
set_option maxHeartbeats 4000000 in
theorem d_reach (d mb : Nat) (off set : Bool) (ah kp wr : Int) (a : Option Addr) (l : List ByteArray) (L c : Nat) (w : World) (h : DRow w d mb off set ah kp wr) (hr : SRd strE w a l) (hL : l.length = L) (hL2 : L ≤ 1000) (hs : ∀ s ∈ l, (s.size : Int) ≤ 9223372036854775807) :
    Calls Tryz.prog 161 #[.pointer (some ⟨d, 0, none⟩), .slice a L c] w fun e w' => e = .returned (.int .i64 (reachC off l)) ∧ w = w' := by
  obtain ⟨c0, c1, c2, c3, c4, c5⟩ := h.cells
  clear h c0 c2 c3 c4 c5
  have HB := fun (s : ByteArray) (hs : (s.size : Int) ≤ 9223372036854775807) (w : World) => d_isName s hs w
  have HR : Hid (SRd strE w a l) := hr
  have HS : Hid (∀ s ∈ l, (s.size : Int) ≤ 9223372036854775807) := hs
  have HL : Hid (l.length = L) := hL
  clear hr hs hL
  cases off with
  | true =>
    go_enter Tryz.func161, Tryz.ntmps161
    go_wp2
    go_ret
    exact ⟨rfl, rfl⟩
  | false =>
    go_enter Tryz.func161, Tryz.ntmps161
    go_wp2
    go_loopw [13] (fun i wr => ∃ k : Nat, k ≤ L ∧ i = .int .i64 k ∧ (l.take k).all nameB = true ∧ wr = w) (fun i _ => L - (intOf i).toNat)
    case atStart => exact ⟨0, Nat.zero_le _, rfl, rfl, rfl⟩
    case round =>
      obtain ⟨k, hk, rfl, hall, rfl⟩ := hrel
      have HALL : Hid ((l.take k).all nameB = true) := hall
      clear hall
      by_cases hlt : k < L
      · have hi : (k : Int) < (L : Int) := by omega
        have hl := HL.out
        obtain ⟨ba, off, rfl, hcc⟩ := HR.out.at (by omega)
        obtain ⟨s, ex⟩ : ∃ x, l[k]? = some x := ⟨_, List.getElem?_eq_getElem (by omega)⟩
        have a0 : wr.cell? ⟨ba, off + k, none⟩ = some (.string s) := by have h := hcc k _ 0 _ ex rfl; simpa [strE] using h
        have hss := HS.out s (List.mem_of_getElem? ex)
        have HT : Hid ((l.take (k + 1)).all nameB = ((l.take k).all nameB && nameB s)) := all_takeN l k s ex
        clear hcc ex
        go_wp2_with fail
        refine (HB _ hss _).mono ?_
        rintro e w' ⟨rfl, rfl⟩
        cases hc : nameB s with
        | true =>
          have HC : Hid ((l.take (k + 1)).all nameB = true) := by show _ = _; rw [HT.out, HALL.out, hc]; rfl
          clear hc HT
          go_wp2
          go_roundw
          case rel => exact ⟨k + 1, by omega, by go_num, HC.out, (by trivial)⟩
          case measure => simp [intOf]; omega
        | false =>
          have HC : Hid (l.all nameB = false) := by
            show _ = _
            rw [← List.take_append_drop (k + 1) l, List.all_append, HT.out, HALL.out, hc]
            rfl
          clear hc HT
          go_wp2
          go_ret
          exact ⟨ret_int (by unfold reachC; rw [HC.out]; rfl), rfl⟩
      · have hkk : k = L := by omega
        have HC : Hid (l.all nameB = true) := by
          have h := HALL.out
          rw [hkk, ← HL.out, List.take_length] at h
          exact h
        have hi : ¬ (k : Int) < (L : Int) := by omega
        go_wp2
        go_ret
        exact ⟨ret_int (by unfold reachC; rw [HC.out]; rfl), rfl⟩
def findC (off : Bool) (F : ByteArray → Option Nat) (s : ByteArray) : Int := if off = true then 60 else if nameB s = false then 61 else if F s = none then 62 else 0
def findP (off : Bool) (F : ByteArray → Option Nat) (s : ByteArray) : Option Nat := if off = true ∨ nameB s = false then none else F s
theorem nameB_size {s : ByteArray} (h : nameB s = true) : s.size ≤ 64 := by
  unfold nameB at h
  simp only [Bool.and_eq_true, decide_eq_true_eq] at h
  exact h.1.2
set_option maxHeartbeats 4000000 in
theorem d_find (d mb n : Nat) (off set : Bool) (ah kp wr : Int) (F : ByteArray → Option Nat) (s : ByteArray) (w : World) (h : DRow w d mb off set ah kp wr) (hm : MapIs w mb n F) (hs : (s.size : Int) ≤ 9223372036854775807) :
    Calls Tryz.prog 135 #[.pointer (some ⟨d, 0, none⟩), .string s] w fun e w' => e = .returned (.tuple #[ptrV (findP off F s), .int .i64 (findC off F s)]) ∧ w.grownBy w' none := by
  obtain ⟨c0, c1, c2, c3, c4, c5⟩ := h.cells
  have hg := World.grownBy_alloc w (.cells #[.string s] 9) none
  have HG : Hid (w.grownBy (w.alloc (.cells #[.string s] 9)) none) := hg
  have HRC : Hid (Calls Tryz.prog 161 #[.pointer (some ⟨d, 0, none⟩), .slice (some ⟨w.heap.size, 0, none⟩) 1 1] (w.alloc (.cells #[.string s] 9)) fun e w' => e = .returned (.int .i64 (reachC off [s])) ∧ (w.alloc (.cells #[.string s] 9)) = w') := d_reach d mb off set ah kp wr (some ⟨w.heap.size, 0, none⟩) [s] 1 1 (w.alloc (.cells (strE.flat [s]).toArray 9)) (h.of_block (hg.block d h.lt (by simp))) (slit w [s]) rfl (by omega) (by intro x hx; simp only [List.mem_singleton] at hx; subst hx; exact hs)
  have HM : Hid (MapIs (w.alloc (.cells #[.string s] 9)) mb n F) := hm.kept hg (by simp)
  have c0' : (w.alloc (.cells #[.string s] 9)).cell? ⟨d, 0, none⟩ = some (.map (some mb)) := hg.cell c0 (by simp)
  have hdl : d < w.heap.size := h.lt
  have hdn : d ≠ w.heap.size := by omega
  clear h hm hg c2 c3 c4 c5
  cases off with
  | true =>
    go_enter Tryz.func135, Tryz.ntmps135
    go_wp2_with fail
    refine HRC.out.mono ?_
    rintro e w' ⟨rfl, rfl⟩
    rw [show reachC true [s] = 60 from rfl]
    go_wp2
    go_ret2
    exact ⟨rfl, HG.out⟩
  | false =>
    cases hn : nameB s with
    | false =>
      have e1 : reachC false [s] = 61 := by simp [reachC, hn]
      have HF : Hid (findP false F s = none ∧ findC false F s = 61) := by constructor <;> simp [findP, findC, hn]
      rw [e1] at HRC
      clear hn e1
      go_enter Tryz.func135, Tryz.ntmps135
      go_wp2_with fail
      refine HRC.out.mono ?_
      rintro e w' ⟨rfl, rfl⟩
      go_wp2
      go_ret2
      exact ⟨by rw [HF.out.1, HF.out.2]; rfl, HG.out⟩
    | true =>
      have e1 : reachC false [s] = 0 := by simp [reachC, hn]
      rw [e1] at HRC
      have hlook := HM.out.look s (nameB_size hn)
      cases hF : F s with
      | none =>
        have HF : Hid (findP false F s = none ∧ findC false F s = 62) := by constructor <;> simp [findP, findC, hn, hF]
        rw [hF] at hlook
        rw [show ptrV none = .pointer none from rfl] at hlook
        clear hn e1 hF
        go_enter Tryz.func135, Tryz.ntmps135
        go_wp2_with fail
        refine HRC.out.mono ?_
        rintro e w' ⟨rfl, rfl⟩
        go_wp2
        go_ret2
        exact ⟨by rw [HF.out.1, HF.out.2]; rfl, HG.out⟩
      | some b =>
        have HF : Hid (findP false F s = some b ∧ findC false F s = 0) := by constructor <;> simp [findP, findC, hn, hF]
        rw [hF] at hlook
        rw [show ptrV (some b) = .pointer (some ⟨b, 0, none⟩) from rfl] at hlook
        clear hn e1 hF
        go_enter Tryz.func135, Tryz.ntmps135
        go_wp2_with fail
        refine HRC.out.mono ?_
        rintro e w' ⟨rfl, rfl⟩
        go_wp2
        go_ret2
        exact ⟨by rw [HF.out.1, HF.out.2]; rfl, HG.out⟩
theorem d_roomNew (d mb n : Nat) (off set : Bool) (ah kp wr more : Int) (F : ByteArray → Option Nat) (s : ByteArray) (w : World) (h : DRow w d mb off set ah kp wr) (hm : MapIs w mb n F) (hs : s.size ≤ 64) (hF : F s = none) (hn : n < 1048576) :
    Calls Tryz.prog 162 #[.pointer (some ⟨d, 0, none⟩), .string s, .int .i64 more] w fun e w' => e = .returned (.bool (decide (more ≤ 4194304))) ∧ w = w' := by
  obtain ⟨c0, c1, c2, c3, c4, c5⟩ := h.cells
  have hlook := hm.look s hs
  rw [hF, show ptrV none = .pointer none from rfl] at hlook
  obtain ⟨m, hmn, hlen⟩ := hm.len 3
  have q0 : decide ((m : Int) < 1048576) = true := by simp; omega
  clear h hm hF c1 c2 c3 c4 c5
  go_enter Tryz.func162, Tryz.ntmps162
  go_wp2
  go_ret
  exact ⟨rfl, rfl⟩
theorem d_roomOld (d mb n b k c : Nat) (a : Option Addr) (off set : Bool) (ah kp wr more : Int) (syn : Nat) (F : ByteArray → Option Nat) (s : ByteArray) (w : World) (h : DRow w d mb off set ah kp wr) (hm : MapIs w mb n F) (hs : s.size ≤ 64) (hF : F s = some b) (hf : w.rowIs b 136 2 (FileF (.slice a k c) syn)) (hk : k ≤ 4194304) :
    Calls Tryz.prog 162 #[.pointer (some ⟨d, 0, none⟩), .string s, .int .i64 more] w fun e w' => e = .returned (.bool (decide (more ≤ 4194304 - (k : Int)))) ∧ w = w' := by
  obtain ⟨c0, c1, c2, c3, c4, c5⟩ := h.cells
  have hlook := hm.look s hs
  rw [hF, show ptrV (some b) = .pointer (some ⟨b, 0, none⟩) from rfl] at hlook
  have f0 : w.cell? ⟨b, 0, none⟩ = some (.slice a k c) := hf.cell (i := 0) (by omega)
  have hk0 : (0 : Int) ≤ 4194304 - (k : Int) := by omega
  have hk1 : (4194304 : Int) - (k : Int) ≤ 4194304 := by omega
  clear h hm hF hf c1 c2 c3 c4 c5
  go_enter Tryz.func162, Tryz.ntmps162
  go_wp2
  go_ret
  exact ⟨rfl, rfl⟩
end Go.Proofs.YtgpgkpciajajcaaGreatDoor

/- Package disk: a file, and what the power's going does to it. -/
namespace Go.Proofs.YtgpgkpciajajcaaGreatDoor
open Go.RowKit Go.Maps
set_option linter.unusedVariables false
set_option maxRecDepth 20000

/-- A file in block b. -/
structure FileIs (w : World) (base b : Nat) (a : Option Addr) (c : Nat) (zs : List Int) (syn : Nat) : Prop where
  row : w.rowIs b 136 2 (FileF (.slice a zs.length c) syn)
  own : SOwn byteE 5 w base (.slice a zs.length c) zs.length zs
  byte : ∀ z ∈ zs, 0 ≤ z ∧ z ≤ 255
  syn : syn ≤ zs.length
  len : zs.length ≤ 4194304
theorem FileIs.kept {w w' : World} {row : Option Nat} {base b c : Nat} {a : Option Addr} {zs : List Int} {syn : Nat} (h : FileIs w base b a c zs syn) (hg : w.grownBy w' row) (h1 : some b ≠ row) (h2 : ∀ x, a = some x → some x.block ≠ row) : FileIs w' base b a c zs syn := by
  refine ⟨h.row.of_block (hg.block b h.row.lt h1), SOwn.kept h.own hg ?_, h.byte, h.syn, h.len⟩
  cases a with
  | none => exact .inl rfl
  | some x => exact .inr (h2 x rfl)
theorem FileIs.drew {w : World} {base b c : Nat} {a : Option Addr} {zs : List Int} {syn : Nat} (h : FileIs w base b a c zs syn) : FileIs w.drew base b a c zs syn := ⟨h.row, h.own, h.byte, h.syn, h.len⟩
theorem shrink {w : World} {base k c : Nat} {a : Option Addr} {zs : List Int} (h : SOwn byteE 5 w base (.slice a k c) k zs) (m : Nat) (hm : m ≤ k) : SOwn byteE 5 w base (.slice a m c) m (zs.take m) := by
  have hl : zs.length = k := SOwn.len h
  unfold SOwn at h ⊢
  have e : byteE.flat (zs.take m) = (byteE.flat zs).take m := by rw [byteE_flat, byteE_flat, List.map_take]
  rw [e]
  have hf : (byteE.flat zs).length = k := by rw [byteE_flat, List.length_map, hl]
  refine ⟨by rw [List.length_take, hf]; show min m k = m * 1; omega, ?_⟩
  rcases h.2 with ⟨h', h0⟩ | ⟨g, cap, cur, h', h1, h2, h3, h4, h5, h6⟩
  · simp only [Value.slice.injEq] at h'
    obtain ⟨rfl, rfl, rfl⟩ := h'
    obtain rfl : m = 0 := by omega
    exact .inl ⟨rfl, rfl⟩
  · simp only [Value.slice.injEq] at h'
    obtain ⟨rfl, _, rfl⟩ := h'
    refine .inr ⟨g, c, cur, rfl, h1, h2, by omega, h4, h5, ?_⟩
    rw [← h6, List.take_take]
    congr 1
    show m * 1 = min m (k * 1)
    omega
/-- How many of u bytes that are not synced stay. -/
def keptN (keep : Int) (u : Nat) : Nat := ((if keep < 0 then 0 else keep) % ((u : Int) + 1)).toNat
theorem keptN_le (keep : Int) (u : Nat) : keptN keep u ≤ u := by
  unfold keptN
  have h1 := Int.emod_nonneg (if keep < 0 then 0 else keep) (show (u : Int) + 1 ≠ 0 by omega)
  have h2 := Int.emod_lt_of_pos (if keep < 0 then 0 else keep) (show (0 : Int) < (u : Int) + 1 by omega)
  omega
theorem two {P : Nat → Prop} (h0 : P 0) (h1 : P 1) : ∀ j, j < 2 → P j := by
  intro j hj
  match j, hj with
  | 0, _ => exact h0
  | 1, _ => exact h1
theorem FileIs.cut {w : World} {base b c : Nat} {a : Option Addr} {zs : List Int} {syn : Nat} (h : FileIs w base b a c zs syn) (S : Nat) (hS : S ≤ zs.length) : FileIs ((w.setCell ⟨b, 1, none⟩ (.int .i64 S)).setCell ⟨b, 0, none⟩ (.slice a S c)) base b a c (zs.take S) S := by
  have hl : (zs.take S).length = S := by rw [List.length_take]; omega
  have hg : w.grownBy ((w.setCell ⟨b, 1, none⟩ (.int .i64 S)).setCell ⟨b, 0, none⟩ (.slice a S c)) (some b) := gb_trans (gb_set rfl) (gb_set rfl) (fun k hk => .inr hk)
  refine ⟨?_, ?_, fun z hz => h.byte z (List.mem_of_mem_take hz), by omega, by have := h.len; omega⟩
  · rw [hl]
    exact ((h.row.set 1 (.int .i64 S)).set 0 (.slice a S c)).congr (two rfl rfl)
  · rw [hl]
    refine SOwn.kept (shrink h.own S hS) hg ?_
    cases a with
    | none => exact .inl rfl
    | some x =>
      right
      intro e
      simp only [Value.ownBlock, Option.some.injEq] at e
      obtain ⟨cur, h1, _⟩ := h.row
      rcases h.own.2 with ⟨h', _⟩ | ⟨g, cap, cur', h', _, h2, _⟩
      · simp at h'
      · simp only [Value.slice.injEq, Option.some.injEq] at h'
        obtain ⟨rfl, _⟩ := h'
        simp only at e
        rw [e, h1] at h2
        simp at h2
set_option maxHeartbeats 4000000 in
theorem d_lose (base b : Nat) (a : Option Addr) (c : Nat) (zs : List Int) (syn : Nat) (keep : Int) (w : World) (h : FileIs w base b a c zs syn) (hk : -9223372036854775808 ≤ keep ∧ keep ≤ 9223372036854775807) :
    Calls Tryz.prog 62 #[.pointer (some ⟨b, 0, none⟩), .int .i64 keep] w fun e w' => e = .returned (.tuple #[]) ∧ FileIs w' base b a c (zs.take (syn + keptN keep (zs.length - syn))) (syn + keptN keep (zs.length - syn)) ∧ w.grownBy w' (some b) := by
  have b0 : w.cell? ⟨b, 0, none⟩ = some (.slice a zs.length c) := h.row.cell (i := 0) (by omega)
  have b1 : w.cell? ⟨b, 1, none⟩ = some (.int .i64 syn) := h.row.cell (i := 1) (by omega)
  have f0 := h.row.frozen 0
  have f1 := h.row.frozen 1
  have hs := h.syn
  have hl := h.len
  obtain ⟨S, eS⟩ : ∃ S, S = syn + keptN keep (zs.length - syn) := ⟨_, rfl⟩
  have hSl : S ≤ zs.length := by have := keptN_le keep (zs.length - syn); omega
  rw [← eS]
  have HF : Hid (FileIs ((w.setCell ⟨b, 1, none⟩ (.int .i64 S)).setCell ⟨b, 0, none⟩ (.slice a S c)) base b a c (zs.take S) S) := h.cut S hSl
  have HG : Hid (w.grownBy ((w.setCell ⟨b, 1, none⟩ (.int .i64 S)).setCell ⟨b, 0, none⟩ (.slice a S c)) (some b)) := gb_trans (gb_set rfl) (gb_set rfl) (fun k hk => .inr hk)
  have hcap : zs.length ≤ c ∧ (c : Int) ≤ 9223372036854775807 ∧ ((∃ g, a = some ⟨g, 0, none⟩) ∨ (a = none ∧ zs.length = 0 ∧ c = 0)) := by
    rcases h.own.2 with ⟨h', h0⟩ | ⟨g, cap, cur', h', _, _, h3, h4, _⟩
    · simp only [Value.slice.injEq] at h'
      obtain ⟨rfl, _, rfl⟩ := h'
      exact ⟨by omega, by omega, .inr ⟨rfl, h0, rfl⟩⟩
    · simp only [Value.slice.injEq] at h'
      obtain ⟨rfl, _, rfl⟩ := h'
      unfold maxLen at h4
      exact ⟨h3, by omega, .inl ⟨g, rfl⟩⟩
  unfold keptN at eS
  obtain ⟨u, eu⟩ : ∃ u, u = zs.length - syn := ⟨_, rfl⟩
  have hu : (zs.length : Int) - (syn : Int) = (u : Int) := by omega
  have hub : u ≤ 4194304 := by omega
  rw [← eu] at eS
  generalize zs.length = L at b0 hs hl hSl hcap hu eu
  obtain ⟨km, hkm, hk0, hk1⟩ : ∃ km, (if keep < 0 then 0 else keep) = km ∧ 0 ≤ km ∧ km ≤ 9223372036854775807 := ⟨_, rfl, by split <;> omega, by split <;> omega⟩
  rw [hkm] at eS
  have hr0 := Int.emod_nonneg km (show (u : Int) + 1 ≠ 0 by omega)
  have hr1 := Int.emod_lt_of_pos km (show (0 : Int) < (u : Int) + 1 by omega)
  have hS : (syn : Int) + km % ((u : Int) + 1) = (S : Int) := by omega
  have hSc : (S : Int) ≤ (c : Int) := by omega
  have hS0 : (0 : Int) ≤ (S : Int) := by omega
  have hSb : (S : Int) ≤ 4194304 := by omega
  obtain ⟨hLc, hc1, hac⟩ := hcap
  clear h eS eu hSl hk
  rcases hac with ⟨g, rfl⟩ | ⟨rfl, rfl, rfl⟩
  · clear hs
    go_enter Tryz.func62, Tryz.ntmps62
    go_wp2
    go_region
    go_wp2
    go_region
    go_wp2
    go_region
    all_goals go_wp2
    all_goals go_end0
    all_goals exact ⟨rfl, HF.out.drew.drew.drew, gb_drew (gb_drew (gb_drew HG.out))⟩
  · obtain rfl : S = 0 := by omega
    obtain rfl : syn = 0 := by omega
    obtain rfl : u = 0 := by omega
    clear hs hu hr0 hr1 hS hSc hS0 hSb hLc hl hub hc1
    go_enter Tryz.func62, Tryz.ntmps62
    go_wp2
    go_region
    go_wp2
    go_region
    go_wp2
    go_region
    all_goals go_wp2
    all_goals go_end0
    all_goals exact ⟨rfl, HF.out.drew.drew.drew, gb_drew (gb_drew (gb_drew HG.out))⟩
end Go.Proofs.YtgpgkpciajajcaaGreatDoor

/- Package disk: a whole disk; the power goes. -/
namespace Go.Proofs.YtgpgkpciajajcaaGreatDoor
open Go.RowKit Go.Maps
set_option linter.unusedVariables false
set_option maxRecDepth 20000

/-- Whatever lies in a block that is not among X has stayed. -/
structure Kept (w w' : World) (X : Nat → Prop) : Prop where
  os : w'.os = w.os
  tape : w'.tape = w.tape
  output : w'.output = w.output
  size : w.heap.size ≤ w'.heap.size
  block : ∀ k, k < w.heap.size → ¬ X k → w'.heap[k]? = w.heap[k]?
theorem Kept.refl (w : World) (X : Nat → Prop) : Kept w w X := ⟨rfl, rfl, rfl, Nat.le_refl _, fun _ _ _ => rfl⟩
theorem Kept.of {w w' : World} {row : Option Nat} {X : Nat → Prop} (h : w.grownBy w' row) (hr : ∀ k, row = some k → X k) : Kept w w' X :=
  ⟨h.os, h.tape, h.output, h.size, fun k hk hx => h.block k hk (fun e => hx (hr k e.symm))⟩
theorem Kept.trans {w w1 w2 : World} {X Y : Nat → Prop} (h : Kept w w1 X) (h' : Kept w1 w2 Y) (hY : ∀ k, k < w.heap.size → Y k → X k) : Kept w w2 X :=
  ⟨h'.os.trans h.os, h'.tape.trans h.tape, h'.output.trans h.output, Nat.le_trans h.size h'.size, fun k hk hx => (h'.block k (Nat.lt_of_lt_of_le hk h.size) (fun y => hx (hY k hk y))).trans (h.block k hk hx)⟩
theorem Kept.mono {w w1 : World} {X Y : Nat → Prop} (h : Kept w w1 X) (hY : ∀ k, k < w.heap.size → X k → Y k) : Kept w w1 Y :=
  ⟨h.os, h.tape, h.output, h.size, fun k hk hx => h.block k hk (fun x => hx (hY k hk x))⟩
theorem Kept.grown {w w' : World} {X : Nat → Prop} (h : Kept w w' X) (hX : ∀ k, k < w.heap.size → ¬ X k) : w.grownBy w' none :=
  ⟨h.os, h.tape, h.output, h.size, fun k hk _ => h.block k hk (hX k hk)⟩
/-- What a file holds. -/
structure FD where
  a : Option Addr
  c : Nat
  zs : List Int
  syn : Nat
def cutD (keep : Int) (f : FD) : FD := ⟨f.a, f.c, f.zs.take (f.syn + keptN keep (f.zs.length - f.syn)), f.syn + keptN keep (f.zs.length - f.syn)⟩
def FIs (w : World) (base b : Nat) (f : FD) : Prop := FileIs w base b f.a f.c f.zs f.syn
/-- A disk in block d, its map in block mb; F: where a name's file lies; G: what lies there. -/
structure DiskIs (w : World) (base d mb n : Nat) (off set : Bool) (ah kp wr : Int) (F : ByteArray → Option Nat) (G : Nat → FD) : Prop where
  row : DRow w d mb off set ah kp wr
  map : MapIs w mb n F
  file : ∀ s b, F s = some b → FIs w base b (G b) ∧ base ≤ b
  inj : ∀ s t b, F s = some b → F t = some b → s = t
  apart : ∀ s t b b', F s = some b → F t = some b' → b ≠ b' → ∀ x y, (G b).a = some x → (G b').a = some y → x.block ≠ y.block
  hd : base ≤ d
  hmb : base ≤ mb
/-- The disk's own blocks that a call which writes no bytes may write. -/
def Own0 (d mb : Nat) (F : ByteArray → Option Nat) (k : Nat) : Prop := k = d ∨ k = mb ∨ ∃ s, F s = some k
theorem row_ne {w : World} {b b' : Nat} {t t' : TypeId} {n n' : Nat} {f f' : Nat → Value} (h : w.rowIs b t n f) (h' : w.rowIs b' t' n' f') (ht : t ≠ t') : b ≠ b' := by
  rintro rfl
  obtain ⟨c, h1, _⟩ := h
  obtain ⟨c', h2, _⟩ := h'
  rw [h1] at h2
  simp only [Option.some.injEq, Obj.cells.injEq] at h2
  exact ht h2.2.1
theorem map_ne {w : World} {b mb n : Nat} {t : TypeId} {m : Nat} {f : Nat → Value} {F : ByteArray → Option Nat} (h : w.rowIs b t m f) (hm : MapIs w mb n F) : b ≠ mb := by
  rintro rfl
  obtain ⟨c, h1, _⟩ := h
  obtain ⟨D, ⟨es, clock, h2, _⟩, _⟩ := hm
  rw [h1] at h2
  cases h2
theorem own_ne {w : World} {base b k c : Nat} {t : TypeId} {m : Nat} {f : Nat → Value} {x : Addr} {zs : List Int} (h : w.rowIs b t m f) (ho : SOwn byteE 5 w base (.slice (some x) k c) k zs) (ht : t ≠ 5) : x.block ≠ b := by
  rintro rfl
  obtain ⟨cc, h1, _⟩ := h
  rcases ho.2 with ⟨h', _⟩ | ⟨g, cap, cur', h', _, h2, _⟩
  · simp at h'
  · simp only [Value.slice.injEq, Option.some.injEq] at h'
    obtain ⟨rfl, _⟩ := h'
    simp only at h1
    rw [h1] at h2
    simp only [Option.some.injEq, Obj.cells.injEq] at h2
    exact ht h2.2.1
theorem own_map {w : World} {base mb n k c : Nat} {x : Addr} {zs : List Int} {F : ByteArray → Option Nat} (hm : MapIs w mb n F) (ho : SOwn byteE 5 w base (.slice (some x) k c) k zs) : x.block ≠ mb := by
  rintro rfl
  obtain ⟨D, ⟨es, clock, h1, _⟩, _⟩ := hm
  rcases ho.2 with ⟨h', _⟩ | ⟨g, cap, cur', h', _, h2, _⟩
  · simp at h'
  · simp only [Value.slice.injEq, Option.some.injEq] at h'
    obtain ⟨rfl, _⟩ := h'
    simp only at h1
    rw [h1] at h2
    cases h2
/-- A file, where its two blocks have stayed. -/
theorem FIs.stay {w w' : World} {base b : Nat} {f : FD} (h : FIs w base b f) (h1 : w'.heap[b]? = w.heap[b]?) (h2 : ∀ x, f.a = some x → w'.heap[x.block]? = w.heap[x.block]?) : FIs w' base b f := by
  refine ⟨FileIs.row h |>.of_block h1, ?_, FileIs.byte h, FileIs.syn h, FileIs.len h⟩
  have ho := FileIs.own h
  refine ⟨ho.1, ?_⟩
  rcases ho.2 with h' | ⟨g, cap, cur, h', h3, h4, h5⟩
  · exact .inl h'
  · refine .inr ⟨g, cap, cur, h', h3, ?_, h5⟩
    have hx : f.a = some ⟨g, 0, none⟩ := by simp only [Value.slice.injEq] at h'; exact h'.1
    have := h2 _ hx
    simp only at this
    rw [this, h4]
theorem FIs.drew {w : World} {base b : Nat} {f : FD} (h : FIs w base b f) : FIs w.drew base b f := FileIs.drew h
theorem str_inv {key : Value} {kl : Lit} (h : keyOf Tryz.prog 9 key = some kl) : ∃ s, key = .string s ∧ kl = kn s ∧ s.size ≤ maxLen := by
  obtain ⟨s, h1, h2, h3⟩ := Go.WideMaps.string_of_keyOf Tryz.underlying9 h
  exact ⟨s, h1, h2, h3⟩
theorem ptr_inv {v : Value} {y : DataW Unit × List MemPlace} (h : ptrE v = some y) : ∃ o, v = ptrV o ∧ y = (ptrD o, []) := by
  unfold ptrE at h
  split at h
  · rename_i b; cases h; exact ⟨some b, rfl, rfl⟩
  · cases h; exact ⟨none, rfl, rfl⟩
  · cases h
theorem drow_off {w : World} {d mb : Nat} {off set : Bool} {ah kp wr : Int} (h : DRow w d mb off set ah kp wr) (b : Bool) : DRow (w.setCell ⟨d, 1, none⟩ (.bool b)) d mb b set ah kp wr := (h.set 1 (.bool b)).congr (six rfl rfl rfl rfl rfl rfl)
set_option maxHeartbeats 4000000 in
theorem d_cut (base d mb n : Nat) (off set : Bool) (ah kp wn keep : Int) (F : ByteArray → Option Nat) (G : Nat → FD) (w : World) (h : DiskIs w base d mb n off set ah kp wn F G) (hk : -9223372036854775808 ≤ keep ∧ keep ≤ 9223372036854775807) :
    Calls Tryz.prog 29 #[.pointer (some ⟨d, 0, none⟩), .int .i64 keep] w fun e w' => e = .returned (.tuple #[]) ∧ DiskIs w' base d mb n true set ah kp wn F (fun b => cutD keep (G b)) ∧ Kept w w' (Own0 d mb F) := by
  obtain ⟨c0, c1, c2, c3, c4, c5⟩ := h.row.cells
  obtain ⟨D, hm, hda, hdh, hdi⟩ := h.map
  have H : Hid (DiskIs w base d mb n off set ah kp wn F G) := h
  have HDA : Hid (∀ s : ByteArray, D.atKey (kn s) (ptrD none) = ptrD (F s)) := hda
  have HDH : Hid (∀ kl, Maps.has D kl = true → ∃ s, kl = kn s ∧ (F s).isSome = true) := hdh
  have HDI : Hid (∀ s, (F s).isSome = true → Maps.has D (kn s) = true) := hdi
  have HM : Hid (w.ownsMap Tryz.prog 9 ptrE mb n D) := hm
  have HL : Hid (∀ (b : Nat) (f : FD) (w1 : World), FIs w1 base b f → Calls Tryz.prog 62 #[.pointer (some ⟨b, 0, none⟩), .int .i64 keep] w1 fun e w' => e = .returned (.tuple #[]) ∧ FIs w' base b (cutD keep f) ∧ w1.grownBy w' (some b)) := fun b f w1 hf => d_lose base b f.a f.c f.zs f.syn keep w1 hf hk
  have HLT : Hid (∀ s b, F s = some b → b < w.heap.size ∧ b ≠ d ∧ b ≠ mb) := fun s b hs => ⟨(FileIs.row (h.file s b hs).1).lt, row_ne (FileIs.row (h.file s b hs).1) h.row (by decide), map_ne (FileIs.row (h.file s b hs).1) h.map⟩
  have HDM : Hid (d ≠ mb) := map_ne h.row h.map
  have HINJ : Hid (∀ s t b, F s = some b → F t = some b → s = t) := h.inj
  clear h hm hda hdh hdi c1 c2 c3 c4 c5 hk
  go_enter Tryz.func29, Tryz.ntmps29
  go_wp2_with (first
    | (at_range; refine wpList_range_own _ rfl _ 60 rfl 9 114 law9 Tryz.underlying60 _ mb n _ rfl HM.out ?_; intro w0 hrg0 hg0 hs0)
    | go_in)
  go_frame
  have HRG0 : Hid (w0.ranges Tryz.prog 9 ptrE mb w.heap.size n D (Maps.has D) (Maps.size D)) := hrg0
  have HG0 : Hid (w.grownBy w0 none) := hg0
  clear hrg0 hg0 hs0
  go_loopw [5] (fun _ wr' => ∃ (left : Lit → Bool) (cnt : Nat), wr'.ranges Tryz.prog 9 ptrE mb w.heap.size n D left cnt ∧ (∀ s b, F s = some b → FIs wr' base b (if left (kn s) = true then G b else cutD keep (G b))) ∧ DRow wr' d mb off set ah kp wn ∧ Kept w wr' (Own0 d mb F))
    (fun _ wr' => wr'.rangeLeft mb w.heap.size)
  case atStart =>
    refine ⟨_, _, HRG0.out, fun s b hs => ?_, H.out.row.of_block (HG0.out.block d H.out.row.lt (by simp)), Kept.of HG0.out (fun k hk => by cases hk)⟩
    rw [if_pos (HDI.out s (by rw [hs]; rfl))]
    exact FIs.stay (H.out.file s b hs).1 (HG0.out.block b (HLT.out s b hs).1 (by simp)) (fun x hx => HG0.out.block x.block (SOwn.block (FileIs.own (H.out.file s b hs).1) x.block (by rw [hx]; rfl)).2 (by simp))
  case round =>
    obtain ⟨left, cnt, hrg, hfs, hrow, hkp⟩ := hrel
    have HRG : Hid (wr.ranges Tryz.prog 9 ptrE mb w.heap.size n D left cnt) := hrg
    have HFS : Hid (∀ s b, F s = some b → FIs wr base b (if left (kn s) = true then G b else cutD keep (G b))) := hfs
    have HROW : Hid (DRow wr d mb off set ah kp wn) := hrow
    have HKP : Hid (Kept w wr (Own0 d mb F)) := hkp
    clear hrg hfs hrow hkp HRG0 HG0
    go_wp2_with (first
      | (at_next; refine wpList_next_ranges _ rfl _ rfl 9 law9 ptrE Value.string ptrV (fun key kl hkey => by obtain ⟨x, hx, _⟩ := str_inv hkey; exact ⟨x, hx⟩) (fun v y hv => by obtain ⟨o, ho, _⟩ := ptr_inv hv; exact ⟨o, ho⟩) mb w.heap.size n _ _ _ rfl HRG.out ?_ ?_)
      | go_in)
    · intro _ hl0
      have e1 := HROW.out.cells
      obtain ⟨c0, c1, c2, c3, c4, c5⟩ := e1
      have f1 := HROW.out.frozen 1
      have HR2 : Hid (DRow (wr.setCell ⟨d, 1, none⟩ (.bool true)) d mb true set ah kp wn) := drow_off HROW.out true
      have hgs : wr.grownBy (wr.setCell ⟨d, 1, none⟩ (.bool true)) (some d) := gb_set rfl
      have HFIN : Hid (DiskIs (wr.setCell ⟨d, 1, none⟩ (.bool true)) base d mb n true set ah kp wn F (fun b => cutD keep (G b))) := by
        refine ⟨HR2.out, ⟨D, HRG.out.owns.kept hgs (fun e => HDM.out (Option.some.inj e).symm), HDA.out, HDH.out, HDI.out⟩, fun s b hs => ⟨?_, (H.out.file s b hs).2⟩, H.out.inj, H.out.apart, H.out.hd, H.out.hmb⟩
        have hf := HFS.out s b hs
        rw [hl0, if_neg (by simp)] at hf
        refine FIs.stay hf (hgs.block b (FileIs.row hf).lt (by simpa using (HLT.out s b hs).2.1)) (fun x hx => hgs.block x.block (SOwn.block (FileIs.own hf) x.block (by rw [hx]; rfl)).2 ?_)
        intro e
        have ho := FileIs.own hf
        rw [hx] at ho
        exact own_ne HROW.out ho (by decide) (Option.some.inj e)
      have HKF : Hid (Kept w (wr.setCell ⟨d, 1, none⟩ (.bool true)) (Own0 d mb F)) := HKP.out.trans (Kept.of hgs (X := fun k => k = d) (fun k hk => by cases hk; rfl)) (fun k _ hk => .inl hk)
      clear hgs
      go_wp2
      go_end0
      exact ⟨rfl, HFIN.out, HKF.out⟩
    · intro x o kl yd yp w1 cnt1 hkey hlk hv hat hrg1 hlt hg1 hs1 hen
      obtain ⟨x', ex, rfl, _⟩ := str_inv hkey
      cases ex
      obtain ⟨o', eo, ey⟩ := ptr_inv hv
      simp only [Prod.mk.injEq] at ey
      obtain ⟨rfl, rfl⟩ := ey
      have hoo : o' = o := by
        cases o <;> cases o' <;> simp [ptrV] at eo <;> first | rfl | (rw [eo])
      subst hoo
      have hFx : ptrD (F x) = ptrD o' := (HDA.out x).symm.trans (hat (ptrD none))
      have hFx' : F x = o' := ptrD_inj hFx
      have hhas : Maps.has D (kn x) = true := has_true_of_atKey hat
      obtain ⟨b, hb⟩ : ∃ b, F x = some b := by
        obtain ⟨s, e, hs⟩ := HDH.out _ hhas
        rw [kn_inj e]
        exact Option.isSome_iff_exists.1 hs
      rw [hb] at hFx'
      subst hFx'
      have hbl := HLT.out x b hb
      have hf := HFS.out x b hb
      rw [if_pos hlk] at hf
      have HF1 : Hid (FIs w1 base b (G b)) := FIs.stay hf (hg1.block b (FileIs.row hf).lt (by simp; omega)) (fun z hz => hg1.block z.block (SOwn.block (FileIs.own hf) z.block (by rw [hz]; rfl)).2 (by
        have h1 := (H.out.file x b hb).1
        have h2 := (SOwn.block (FileIs.own h1) z.block (by rw [hz]; rfl)).2
        simp
        omega))
      have HRG1 : Hid (w1.ranges Tryz.prog 9 ptrE mb w.heap.size n D (fun z => left z && !z.sameKey (kn x)) cnt1) := hrg1
      have HG1 : Hid (wr.grownBy w1 (some w.heap.size)) := hg1
      have HLT1 : Hid (cnt1 < cnt) := hlt
      have hen' : (Instr.entry (.pointer (some ⟨w.heap.size, 0, none⟩))).run Tryz.prog w1 = .ok (.tuple #[.string x, .pointer (some ⟨b, 0, none⟩)]) w1 := hen
      have HB : Hid (F x = some b) := hb
      rw [show ptrV (some b) = .pointer (some ⟨b, 0, none⟩) from rfl]
      clear hkey hlk hv hat hrg1 hlt hg1 hs1 hen hFx hhas hf hb
      go_wp2_with fail
      refine (HL.out b _ w1 HF1.out).mono ?_
      rintro e w2 ⟨rfl, hf2, hg2⟩
      have HF2 : Hid (FIs w2 base b (cutD keep (G b))) := hf2
      have HG2 : Hid (w1.grownBy w2 (some b)) := hg2
      clear hf2 hg2
      go_wp2
      go_roundw
      case rel =>
        refine ⟨_, cnt1, HRG1.out.kept HG2.out (fun e => hbl.2.2 (Option.some.inj e).symm) (fun e => by have := Option.some.inj e; omega), fun s b' hs => ?_, ?_, ?_⟩
        · have hf0 := (H.out.file s b' hs).1
          by_cases hsx : s = x
          · subst hsx
            obtain rfl : b' = b := Option.some.inj (hs.symm.trans HB.out)
            have hsk : (kn s).sameKey (kn s) = true := by simp [Lit.sameKey]
            rw [hsk]
            simp only [Bool.not_true, Bool.and_false, Bool.false_eq_true, if_false]
            exact HF2.out
          · have hsk : (kn s).sameKey (kn x) = false := sameKey_ne (kn_ne hsx)
            rw [hsk]
            simp only [Bool.not_false, Bool.and_true]
            have hbb : b' ≠ b := fun e => hsx (HINJ.out s x b (by rw [← e]; exact hs) HB.out)
            have hfw := HFS.out s b' hs
            have hk1 : ∀ k, k < w.heap.size → k ≠ b → w2.heap[k]? = wr.heap[k]? := fun k hk hne => (HG2.out.block k (by have := HG1.out.size; have := HKP.out.size; omega) (by simpa using hne)).trans (HG1.out.block k (by have := HKP.out.size; omega) (by simp; omega))
            refine FIs.stay hfw (hk1 b' (HLT.out s b' hs).1 hbb) (fun z hz => ?_)
            have hza : (G b').a = some z := by
              have : (if left (kn s) = true then G b' else cutD keep (G b')).a = (G b').a := by split <;> rfl
              rw [← this]; exact hz
            have hzo : SOwn byteE 5 w base (.slice (some z) (G b').zs.length (G b').c) (G b').zs.length (G b').zs := by have := FileIs.own hf0; rw [hza] at this; exact this
            exact hk1 z.block (SOwn.block hzo z.block rfl).2 (own_ne (FileIs.row (H.out.file x b HB.out).1) hzo (by decide))
        · exact HROW.out.of_block ((HG2.out.block d (by have := HG1.out.size; have := HROW.out.lt; omega) (fun e => hbl.2.1 (Option.some.inj e).symm)).trans (HG1.out.block d HROW.out.lt (by have := H.out.row.lt; simp; omega)))
        · exact HKP.out.trans ((Kept.of HG1.out (X := fun k => k = w.heap.size ∨ k = b) (fun k hk => by cases hk; exact .inl rfl)).trans (Kept.of HG2.out (X := fun k => k = b) (fun k hk => by cases hk; rfl)) (fun k _ hk => .inr hk)) (fun k hk hX => by
            rcases hX with h | h
            · omega
            · exact .inr (.inr ⟨x, by rw [h]; exact HB.out⟩))
      case measure =>
        have h1 := HRG.out.left_eq
        have h2 := (HRG1.out.kept HG2.out (fun e => hbl.2.2 (Option.some.inj e).symm) (fun e => by have := Option.some.inj e; omega)).left_eq
        rw [h1, h2]
        exact HLT1.out
end Go.Proofs.YtgpgkpciajajcaaGreatDoor

/- Package disk: how a disk goes through writes of its struct; Off. -/
namespace Go.Proofs.YtgpgkpciajajcaaGreatDoor
open Go.RowKit Go.Maps
set_option linter.unusedVariables false
set_option maxRecDepth 20000

section
variable {w w' : World} {base d mb n : Nat} {off set : Bool} {ah kp wn : Int} {F : ByteArray → Option Nat} {G : Nat → FD}
theorem DiskIs.lt (h : DiskIs w base d mb n off set ah kp wn F G) : ∀ s b, F s = some b → b < w.heap.size ∧ b ≠ d ∧ b ≠ mb := fun s b hs => ⟨(FileIs.row (h.file s b hs).1).lt, row_ne (FileIs.row (h.file s b hs).1) h.row (by decide), map_ne (FileIs.row (h.file s b hs).1) h.map⟩
theorem DiskIs.slc (h : DiskIs w base d mb n off set ah kp wn F G) {s : ByteArray} {b : Nat} (hs : F s = some b) {x : Addr} (hx : (G b).a = some x) : base ≤ x.block ∧ x.block < w.heap.size ∧ x.block ≠ d ∧ x.block ≠ mb ∧ ∀ t b', F t = some b' → x.block ≠ b' := by
  have ho := FileIs.own (h.file s b hs).1
  rw [hx] at ho
  have h1 := SOwn.block ho x.block rfl
  exact ⟨h1.1, h1.2, own_ne h.row ho (by decide), own_map h.map ho, fun t b' ht => own_ne (FileIs.row (h.file t b' ht).1) ho (by decide)⟩
/-- The blocks of a disk have stayed, but for its struct's. -/
theorem DiskIs.rowed {off' set' : Bool} {ah' kp' wn' : Int} (h : DiskIs w base d mb n off set ah kp wn F G) (hr : DRow w' d mb off' set' ah' kp' wn') (hg : Kept w w' (fun k => k = d)) : DiskIs w' base d mb n off' set' ah' kp' wn' F G := by
  obtain ⟨D, ⟨es, clock, hb, hF, hs, hD⟩, h1, h2, h3⟩ := h.map
  have hmd : mb ≠ d := fun e => map_ne h.row h.map e.symm
  refine ⟨hr, ⟨D, ⟨es, clock, (hg.block mb h.map.lt hmd).trans hb, hF, hs, hD⟩, h1, h2, h3⟩, fun s b hs => ⟨?_, (h.file s b hs).2⟩, h.inj, h.apart, h.hd, h.hmb⟩
  refine FIs.stay (h.file s b hs).1 (hg.block b (h.lt s b hs).1 (h.lt s b hs).2.1) (fun x hx => hg.block x.block (h.slc hs hx).2.1 (h.slc hs hx).2.2.1)
theorem DiskIs.kept (h : DiskIs w base d mb n off set ah kp wn F G) (hg : w.grownBy w' none) : DiskIs w' base d mb n off set ah kp wn F G :=
  h.rowed (h.row.of_block (hg.block d h.row.lt (by simp))) (Kept.of hg (fun k hk => by cases hk))
theorem DiskIs.drew (h : DiskIs w base d mb n off set ah kp wn F G) : DiskIs w.drew base d mb n off set ah kp wn F G := h.kept (gb_drew (World.grownBy.refl w none))
/-- Other blocks may be written, too. -/
theorem DiskIs.others {X : Nat → Prop} (h : DiskIs w base d mb n off set ah kp wn F G) (hg : Kept w w' X) (h1 : ¬ X d) (h2 : ¬ X mb) (h3 : ∀ s b, F s = some b → ¬ X b ∧ ∀ x, (G b).a = some x → ¬ X x.block) : DiskIs w' base d mb n off set ah kp wn F G := by
  obtain ⟨D, ⟨es, clock, hb, hF, hs, hD⟩, e1, e2, e3⟩ := h.map
  refine ⟨h.row.of_block (hg.block d h.row.lt h1), ⟨D, ⟨es, clock, (hg.block mb h.map.lt h2).trans hb, hF, hs, hD⟩, e1, e2, e3⟩, fun s b hs => ⟨?_, (h.file s b hs).2⟩, h.inj, h.apart, h.hd, h.hmb⟩
  exact FIs.stay (h.file s b hs).1 (hg.block b (h.lt s b hs).1 (h3 s b hs).1) (fun x hx => hg.block x.block (h.slc hs hx).2.1 ((h3 s b hs).2 x hx))
end
set_option maxHeartbeats 2000000 in
theorem d_off (base d mb n : Nat) (set : Bool) (ah kp wn keep : Int) (F : ByteArray → Option Nat) (G : Nat → FD) (w : World) (h : DiskIs w base d mb n false set ah kp wn F G) (hk : -9223372036854775808 ≤ keep ∧ keep ≤ 9223372036854775807) :
    Calls Tryz.prog 11 #[.pointer (some ⟨d, 0, none⟩), .int .i64 keep] w fun e w' => e = .returned (.tuple #[]) ∧ DiskIs w' base d mb n true false 0 0 wn F (fun b => cutD keep (G b)) ∧ Kept w w' (Own0 d mb F) := by
  obtain ⟨c0, c1, c2, c3, c4, c5⟩ := h.row.cells
  have HC : Hid (Calls Tryz.prog 29 #[.pointer (some ⟨d, 0, none⟩), .int .i64 keep] w fun e w' => e = .returned (.tuple #[]) ∧ DiskIs w' base d mb n true set ah kp wn F (fun b => cutD keep (G b)) ∧ Kept w w' (Own0 d mb F)) := d_cut base d mb n false set ah kp wn keep F G w h hk
  clear h hk c0 c2 c3 c4 c5
  go_enter Tryz.func11, Tryz.ntmps11
  go_wp2_with fail
  refine HC.out.mono ?_
  rintro e w1 ⟨rfl, hd1, hk1⟩
  have HD1 : Hid (DiskIs w1 base d mb n true set ah kp wn F (fun b => cutD keep (G b))) := hd1
  have HK1 : Hid (Kept w w1 (Own0 d mb F)) := hk1
  clear hd1 hk1
  go_wp2_with fail
  refine (d_disarm d mb true set ah kp wn w1 HD1.out.row).mono ?_
  rintro e w2 ⟨rfl, hr2, hg2⟩
  have HD2 : Hid (DiskIs w2 base d mb n true false 0 0 wn F (fun b => cutD keep (G b))) := HD1.out.rowed hr2 (Kept.of hg2 (fun k hk => by cases hk; rfl))
  have HK2 : Hid (Kept w w2 (Own0 d mb F)) := HK1.out.trans (Kept.of hg2 (X := fun k => k = d) (fun k hk => by cases hk; rfl)) (fun k _ hk => .inl hk)
  clear hr2 hg2
  go_wp2
  go_end0
  exact ⟨rfl, HD2.out, HK2.out⟩
end Go.Proofs.YtgpgkpciajajcaaGreatDoor

