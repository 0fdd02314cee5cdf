/- Several texts in one: Dk1, Dk2, Dk3. -/
import Derived.Test.YtekejnjaiccnbaaGreatDoorMa
/- Package disk: the small calls; names. -/
namespace Go.Proofs.YtekejnjaiccnbaaGreatDoor
open Go.RowKit Go.Maps
set_option linter.unusedVariables false
set_option maxRecDepth 20000

abbrev DRow (w : World) (d mb : Nat) (off set : Bool) (ah kp wr : Int) : Prop := w.rowIs d 74 6 (DiskF mb off set ah kp wr)
theorem DRow.cells {w : World} {d mb : Nat} {off set : Bool} {ah kp wr : Int} (h : DRow w d mb off set ah kp wr) :
    w.cell? ⟨d, 0, none⟩ = some (.map (some mb)) ∧ w.cell? ⟨d, 1, none⟩ = some (.bool off) ∧ w.cell? ⟨d, 2, none⟩ = some (.bool set) ∧ w.cell? ⟨d, 3, none⟩ = some (.int .i64 ah) ∧ w.cell? ⟨d, 4, none⟩ = some (.int .i64 kp) ∧ w.cell? ⟨d, 5, none⟩ = some (.int .u64 wr) :=
  ⟨h.cell (i := 0) (by omega), h.cell (i := 1) (by omega), h.cell (i := 2) (by omega), h.cell (i := 3) (by omega), h.cell (i := 4) (by omega), h.cell (i := 5) (by omega)⟩
theorem six {P : Nat → Prop} (h0 : P 0) (h1 : P 1) (h2 : P 2) (h3 : P 3) (h4 : P 4) (h5 : P 5) : ∀ j, j < 6 → P j := by
  intro j hj
  match j, hj with
  | 0, _ => exact h0
  | 1, _ => exact h1
  | 2, _ => exact h2
  | 3, _ => exact h3
  | 4, _ => exact h4
  | 5, _ => exact h5
theorem d_new (w : World) : Calls Tryz.prog 12 #[] w fun e w' => ∃ d mb, e = .returned (.pointer (some ⟨d, 0, none⟩)) ∧ DRow w' d mb false false 0 0 0 ∧ MapIs w' mb 0 (fun _ => none) ∧ w.heap.size ≤ d ∧ w.heap.size ≤ mb ∧ w.grownBy w' none := by
  have hmm := @run_makeMap Tryz.prog
  go_enter Tryz.func12, Tryz.ntmps12
  go_wp2
  go_ret
  have hs1 : ∀ (w : World) o, (w.alloc o).heap.size = w.heap.size + 1 := fun w o => Array.size_push _
  have hg2 := World.grownBy_alloc (w.alloc (.map #[] 0)) (.cells #[.map (some w.heap.size), .bool false, .bool false, .int .i64 0, .int .i64 0, .int .u64 0] 74) none
  refine ⟨(w.alloc (.map #[] 0)).heap.size, w.heap.size, by rw [hs1]; rfl, ?_, (MapIs.made w).kept hg2 (by simp), by rw [hs1]; omega, Nat.le_refl _, (World.grownBy_alloc w _ none).trans hg2⟩
  exact World.rowIs_alloc (w.alloc (.map #[] 0)) #[.map (some w.heap.size), .bool false, .bool false, .int .i64 0, .int .i64 0, .int .u64 0] 74 _ (six rfl rfl rfl rfl rfl rfl)
theorem d_up (d mb : Nat) (off set : Bool) (ah kp wr : Int) (w : World) (h : DRow w d mb off set ah kp wr) : Calls Tryz.prog 16 #[.pointer (some ⟨d, 0, none⟩)] w fun e w' => e = .returned (.bool !off) ∧ w = w' := by
  obtain ⟨c0, c1, c2, c3, c4, c5⟩ := h.cells
  clear h
  go_enter Tryz.func16, Tryz.ntmps16
  go_wp2
  go_ret
  exact ⟨rfl, rfl⟩
theorem d_writes (d mb : Nat) (off set : Bool) (ah kp wr : Int) (w : World) (h : DRow w d mb off set ah kp wr) : Calls Tryz.prog 77 #[.pointer (some ⟨d, 0, none⟩)] w fun e w' => e = .returned (.int .u64 wr) ∧ w = w' := by
  obtain ⟨c0, c1, c2, c3, c4, c5⟩ := h.cells
  clear h
  go_enter Tryz.func77, Tryz.ntmps77
  go_wp2
  go_ret
  exact ⟨rfl, rfl⟩
theorem d_on (d mb : Nat) (off set : Bool) (ah kp wr : Int) (w : World) (h : DRow w d mb off set ah kp wr) : Calls Tryz.prog 21 #[.pointer (some ⟨d, 0, none⟩)] w fun e w' => e = .returned (.tuple #[]) ∧ DRow w' d mb false set ah kp wr ∧ w.grownBy w' (some d) := by
  obtain ⟨c0, c1, c2, c3, c4, c5⟩ := h.cells
  have f1 := h.frozen 1
  have HS : Hid (DRow (w.setCell ⟨d, 1, none⟩ (.bool false)) d mb false set ah kp wr) := (h.set 1 (.bool false)).congr (six rfl rfl rfl rfl rfl rfl)
  clear h
  go_enter Tryz.func21, Tryz.ntmps21
  go_wp2
  go_end0
  exact ⟨rfl, HS.out, gb_set rfl⟩
theorem d_disarm (d mb : Nat) (off set : Bool) (ah kp wr : Int) (w : World) (h : DRow w d mb off set ah kp wr) : Calls Tryz.prog 46 #[.pointer (some ⟨d, 0, none⟩)] w fun e w' => e = .returned (.tuple #[]) ∧ DRow w' d mb off false 0 0 wr ∧ w.grownBy w' (some d) := by
  obtain ⟨c0, c1, c2, c3, c4, c5⟩ := h.cells
  have f2 := h.frozen 2
  have f3 := h.frozen 3
  have f4 := h.frozen 4
  have HS : Hid (DRow (((w.setCell ⟨d, 2, none⟩ (.bool false)).setCell ⟨d, 3, none⟩ (.int .i64 0)).setCell ⟨d, 4, none⟩ (.int .i64 0)) d mb off false 0 0 wr) := (((h.set 2 (.bool false)).set 3 (.int .i64 0)).set 4 (.int .i64 0)).congr (six rfl rfl rfl rfl rfl rfl)
  have HG : Hid (w.grownBy (((w.setCell ⟨d, 2, none⟩ (.bool false)).setCell ⟨d, 3, none⟩ (.int .i64 0)).setCell ⟨d, 4, none⟩ (.int .i64 0)) (some d)) := gb_trans (gb_trans (gb_set rfl) (gb_set rfl) (fun k hk => .inr hk)) (gb_set rfl) (fun k hk => .inr hk)
  clear h
  go_enter Tryz.func46, Tryz.ntmps46
  go_wp2
  go_end0
  exact ⟨rfl, HS.out, HG.out⟩
theorem d_arm (d mb : Nat) (off set : Bool) (ah kp wr ah' kp' : Int) (w : World) (h : DRow w d mb off set ah kp wr) (h0 : 0 ≤ ah') : Calls Tryz.prog 14 #[.pointer (some ⟨d, 0, none⟩), .int .i64 ah', .int .i64 kp'] w fun e w' => e = .returned (.tuple #[]) ∧ DRow w' d mb off true ah' kp' wr ∧ w.grownBy w' (some d) := by
  obtain ⟨c0, c1, c2, c3, c4, c5⟩ := h.cells
  have f2 := h.frozen 2
  have f3 := h.frozen 3
  have f4 := h.frozen 4
  have HS : Hid (DRow (((w.setCell ⟨d, 2, none⟩ (.bool true)).setCell ⟨d, 3, none⟩ (.int .i64 ah')).setCell ⟨d, 4, none⟩ (.int .i64 kp')) d mb off true ah' kp' wr) := (((h.set 2 (.bool true)).set 3 (.int .i64 ah')).set 4 (.int .i64 kp')).congr (six rfl rfl rfl rfl rfl rfl)
  have HG : Hid (w.grownBy (((w.setCell ⟨d, 2, none⟩ (.bool true)).setCell ⟨d, 3, none⟩ (.int .i64 ah')).setCell ⟨d, 4, none⟩ (.int .i64 kp')) (some d)) := gb_trans (gb_trans (gb_set rfl) (gb_set rfl) (fun k hk => .inr hk)) (gb_set rfl) (fun k hk => .inr hk)
  have q0 : decide (ah' < 0) = false := by simp; omega
  clear h
  go_enter Tryz.func14, Tryz.ntmps14
  go_wp2
  go_end0
  exact ⟨rfl, HS.out, HG.out⟩
/-- The bytes of a name. -/
def nameC (z : Int) : Bool := decide (97 ≤ z) && decide (z ≤ 122) || decide (48 ≤ z) && decide (z ≤ 57) || decide (z = 47) || decide (z = 46) || decide (z = 45)
def nameB (s : ByteArray) : Bool := decide (1 ≤ s.size) && decide (s.size ≤ 64) && (sInts s).all nameC
set_option maxHeartbeats 4000000 in
theorem d_nameByte (z : Int) (w : World) : Calls Tryz.prog 118 #[.int .u8 z] w fun e w' => e = .returned (.bool (nameC z)) ∧ w = w' := by
  go_enter Tryz.func118, Tryz.ntmps118
  go_wp2
  all_goals go_ret
  all_goals refine ⟨ret_bool ?_, rfl⟩
  all_goals (rw [Bool.eq_iff_iff]; simp only [nameC, Bool.or_eq_true, Bool.and_eq_true, decide_eq_true_eq, beq_iff_eq, true_iff]; first | omega | decide | simp)
theorem all_take (s : ByteArray) (k : Nat) (hk : k < s.size) : ((sInts s).take (k + 1)).all nameC = (((sInts s).take k).all nameC && nameC (byteAt s k)) := by
  have hl := sInts_len s
  rw [List.take_add_one, List.getElem?_eq_getElem (by omega), List.all_append]
  congr 1
  simp [byteAt, List.getD, List.getElem?_eq_getElem (show k < (sInts s).length by omega)]
set_option maxHeartbeats 4000000 in
theorem d_isName (s : ByteArray) (hs : (s.size : Int) ≤ 9223372036854775807) (w : World) : Calls Tryz.prog 88 #[.string s] w fun e w' => e = .returned (.bool (nameB s)) ∧ w = w' := by
  have HB := fun (z : Int) (w : World) => d_nameByte z w
  by_cases h1 : 1 ≤ s.size
  · by_cases h2 : s.size ≤ 64
    · have q1 : decide ((s.size : Int) < 1) = false := by simp; omega
      have q2 : decide ((64 : Int) < (s.size : Int)) = false := by simp; omega
      have hix := fun i hi w => idx9 s i hi w
      have HN : Hid (nameB s = (sInts s).all nameC) := by
        show _ = _
        unfold nameB
        rw [decide_eq_true h1, decide_eq_true h2]
        simp
      go_enter Tryz.func88, Tryz.ntmps88
      go_wp2
      go_loopw [14] (fun i wr => ∃ k : Nat, k ≤ s.size ∧ i = .int .i64 k ∧ ((sInts s).take k).all nameC = true ∧ wr = w) (fun i _ => s.size - (intOf i).toNat)
      case atStart => exact ⟨0, Nat.zero_le _, rfl, rfl, rfl⟩
      case round =>
        obtain ⟨k, hk, rfl, hall, rfl⟩ := hrel
        have HALL : Hid (((sInts s).take k).all nameC = true) := hall
        clear hall
        by_cases hlt : k < s.size
        · have hi : (k : Int) < (s.size : Int) := by omega
          have hix2 := hix k hlt wr
          have HT : Hid (((sInts s).take (k + 1)).all nameC = (((sInts s).take k).all nameC && nameC (byteAt s k))) := all_take s k hlt
          clear hix
          go_wp2_with fail
          refine (HB _ _).mono ?_
          rintro e w' ⟨rfl, rfl⟩
          cases hc : nameC (byteAt s k) with
          | true =>
            have HC : Hid (((sInts s).take (k + 1)).all nameC = true) := by show _ = _; rw [HT.out, HALL.out, hc]; rfl
            clear hc HT
            go_wp2
            go_roundw
            case rel => exact ⟨k + 1, by omega, by go_num, HC.out, (by trivial)⟩
            case measure => simp [intOf]; omega
          | false =>
            have HC : Hid ((sInts s).all nameC = false) := by
              show _ = _
              rw [← List.take_append_drop (k + 1) (sInts s), List.all_append, HT.out, HALL.out, hc]
              rfl
            clear hc HT
            go_wp2
            go_ret
            exact ⟨ret_bool (by rw [HN.out, HC.out]), rfl⟩
        · have hkk : k = s.size := by omega
          have HC : Hid ((sInts s).all nameC = true) := by
            have h := HALL.out
            rw [hkk, ← sInts_len s, List.take_length] at h
            exact h
          have hi : ¬ (k : Int) < (s.size : Int) := by omega
          clear hix
          go_wp2
          go_ret
          exact ⟨ret_bool (by rw [HN.out, HC.out]), rfl⟩
    · have q1 : decide ((s.size : Int) < 1) = false := by simp; omega
      have q2 : decide ((64 : Int) < (s.size : Int)) = true := by simp; omega
      have HN : Hid (nameB s = false) := by
        show _ = _
        unfold nameB
        rw [decide_eq_false h2]
        simp
      go_enter Tryz.func88, Tryz.ntmps88
      go_wp2
      go_ret
      exact ⟨ret_bool HN.out.symm, rfl⟩
  · have q1 : decide ((s.size : Int) < 1) = true := by simp; omega
    have HN : Hid (nameB s = false) := by
      show _ = _
      unfold nameB
      rw [decide_eq_false h1]
      simp
    go_enter Tryz.func88, Tryz.ntmps88
    go_wp2
    go_ret
    exact ⟨ret_bool HN.out.symm, rfl⟩
end Go.Proofs.YtekejnjaiccnbaaGreatDoor

/- Package disk: reach, find, hasRoom. -/
namespace Go.Proofs.YtekejnjaiccnbaaGreatDoor
open Go.RowKit Go.Maps
set_option linter.unusedVariables false
set_option maxRecDepth 20000

def strE : Elem ByteArray where
  cells s := [.string s]
  size := 1
  pos := by decide
  len _ := rfl
  one s v h := by
    simp only [List.mem_cons, List.mem_nil_iff, or_false] at h
    subst h
    rfl
theorem slit (w : World) (ls : List ByteArray) : SRd strE (w.alloc (.cells (strE.flat ls).toArray 9)) (some ⟨w.heap.size, 0, none⟩) ls := by
  refine .inr ⟨w.heap.size, 0, rfl, fun j v hj => ?_⟩
  rw [Nat.zero_add, cell_of_row _ w.heap.size j _ 9 _ (heap_alloc_new w _)]
  simpa using hj
def reachC (off : Bool) (l : List ByteArray) : Int := if off = true then 60 else if l.all nameB = true then 0 else 61
theorem all_takeN (l : List ByteArray) (k : Nat) (s : ByteArray) (hk : l[k]? = some s) : (l.take (k + 1)).all nameB = ((l.take k).all nameB && nameB s) := by
  rw [List.take_add_one, hk, List.all_append]
  simp
set_option maxHeartbeats 4000000 in
theorem d_reach (d mb : Nat) (off set : Bool) (ah kp wr : Int) (a : Option Addr) (l : List ByteArray) (L c : Nat) (w : World) (h : DRow w d mb off set ah kp wr) (hr : SRd strE w a l) (hL : l.length = L) (hL2 : L ≤ 1000) (hs : ∀ s ∈ l, (s.size : Int) ≤ 9223372036854775807) :
    Calls Tryz.prog 65 #[.pointer (some ⟨d, 0, none⟩), .slice a L c] w fun e w' => e = .returned (.int .i64 (reachC off l)) ∧ w = w' := by
  obtain ⟨c0, c1, c2, c3, c4, c5⟩ := h.cells
  clear h c0 c2 c3 c4 c5
  have HB := fun (s : ByteArray) (hs : (s.size : Int) ≤ 9223372036854775807) (w : World) => d_isName s hs w
  have HR : Hid (SRd strE w a l) := hr
  have HS : Hid (∀ s ∈ l, (s.size : Int) ≤ 9223372036854775807) := hs
  have HL : Hid (l.length = L) := hL
  clear hr hs hL
  cases off with
  | true =>
    go_enter Tryz.func65, Tryz.ntmps65
    go_wp2
    go_ret
    exact ⟨rfl, rfl⟩
  | false =>
    go_enter Tryz.func65, Tryz.ntmps65
    go_wp2
    go_loopw [13] (fun i wr => ∃ k : Nat, k ≤ L ∧ i = .int .i64 k ∧ (l.take k).all nameB = true ∧ wr = w) (fun i _ => L - (intOf i).toNat)
    case atStart => exact ⟨0, Nat.zero_le _, rfl, rfl, rfl⟩
    case round =>
      obtain ⟨k, hk, rfl, hall, rfl⟩ := hrel
      have HALL : Hid ((l.take k).all nameB = true) := hall
      clear hall
      by_cases hlt : k < L
      · have hi : (k : Int) < (L : Int) := by omega
        have hl := HL.out
        obtain ⟨ba, off, rfl, hcc⟩ := HR.out.at (by omega)
        obtain ⟨s, ex⟩ : ∃ x, l[k]? = some x := ⟨_, List.getElem?_eq_getElem (by omega)⟩
        have a0 : wr.cell? ⟨ba, off + k, none⟩ = some (.string s) := by have h := hcc k _ 0 _ ex rfl; simpa [strE] using h
        have hss := HS.out s (List.mem_of_getElem? ex)
        have HT : Hid ((l.take (k + 1)).all nameB = ((l.take k).all nameB && nameB s)) := all_takeN l k s ex
        clear hcc ex
        go_wp2_with fail
        refine (HB _ hss _).mono ?_
        rintro e w' ⟨rfl, rfl⟩
        cases hc : nameB s with
        | true =>
          have HC : Hid ((l.take (k + 1)).all nameB = true) := by show _ = _; rw [HT.out, HALL.out, hc]; rfl
          clear hc HT
          go_wp2
          go_roundw
          case rel => exact ⟨k + 1, by omega, by go_num, HC.out, (by trivial)⟩
          case measure => simp [intOf]; omega
        | false =>
          have HC : Hid (l.all nameB = false) := by
            show _ = _
            rw [← List.take_append_drop (k + 1) l, List.all_append, HT.out, HALL.out, hc]
            rfl
          clear hc HT
          go_wp2
          go_ret
          exact ⟨ret_int (by unfold reachC; rw [HC.out]; rfl), rfl⟩
      · have hkk : k = L := by omega
        have HC : Hid (l.all nameB = true) := by
          have h := HALL.out
          rw [hkk, ← HL.out, List.take_length] at h
          exact h
        have hi : ¬ (k : Int) < (L : Int) := by omega
        go_wp2
        go_ret
        exact ⟨ret_int (by unfold reachC; rw [HC.out]; rfl), rfl⟩
def findC (off : Bool) (F : ByteArray → Option Nat) (s : ByteArray) : Int := if off = true then 60 else if nameB s = false then 61 else if F s = none then 62 else 0
def findP (off : Bool) (F : ByteArray → Option Nat) (s : ByteArray) : Option Nat := if off = true ∨ nameB s = false then none else F s
theorem nameB_size {s : ByteArray} (h : nameB s = true) : s.size ≤ 64 := by
  unfold nameB at h
  simp only [Bool.and_eq_true, decide_eq_true_eq] at h
  exact h.1.2
set_option maxHeartbeats 4000000 in
theorem d_find (d mb n : Nat) (off set : Bool) (ah kp wr : Int) (F : ByteArray → Option Nat) (s : ByteArray) (w : World) (h : DRow w d mb off set ah kp wr) (hm : MapIs w mb n F) (hs : (s.size : Int) ≤ 9223372036854775807) :
    Calls Tryz.prog 95 #[.pointer (some ⟨d, 0, none⟩), .string s] w fun e w' => e = .returned (.tuple #[ptrV (findP off F s), .int .i64 (findC off F s)]) ∧ w.grownBy w' none := by
  obtain ⟨c0, c1, c2, c3, c4, c5⟩ := h.cells
  have hg := World.grownBy_alloc w (.cells #[.string s] 9) none
  have HG : Hid (w.grownBy (w.alloc (.cells #[.string s] 9)) none) := hg
  have HRC : Hid (Calls Tryz.prog 65 #[.pointer (some ⟨d, 0, none⟩), .slice (some ⟨w.heap.size, 0, none⟩) 1 1] (w.alloc (.cells #[.string s] 9)) fun e w' => e = .returned (.int .i64 (reachC off [s])) ∧ (w.alloc (.cells #[.string s] 9)) = w') := d_reach d mb off set ah kp wr (some ⟨w.heap.size, 0, none⟩) [s] 1 1 (w.alloc (.cells (strE.flat [s]).toArray 9)) (h.of_block (hg.block d h.lt (by simp))) (slit w [s]) rfl (by omega) (by intro x hx; simp only [List.mem_singleton] at hx; subst hx; exact hs)
  have HM : Hid (MapIs (w.alloc (.cells #[.string s] 9)) mb n F) := hm.kept hg (by simp)
  have c0' : (w.alloc (.cells #[.string s] 9)).cell? ⟨d, 0, none⟩ = some (.map (some mb)) := hg.cell c0 (by simp)
  have hdl : d < w.heap.size := h.lt
  have hdn : d ≠ w.heap.size := by omega
  clear h hm hg c2 c3 c4 c5
  cases off with
  | true =>
    go_enter Tryz.func95, Tryz.ntmps95
    go_wp2_with fail
    refine HRC.out.mono ?_
    rintro e w' ⟨rfl, rfl⟩
    rw [show reachC true [s] = 60 from rfl]
    go_wp2
    go_ret2
    exact ⟨rfl, HG.out⟩
  | false =>
    cases hn : nameB s with
    | false =>
      have e1 : reachC false [s] = 61 := by simp [reachC, hn]
      have HF : Hid (findP false F s = none ∧ findC false F s = 61) := by constructor <;> simp [findP, findC, hn]
      rw [e1] at HRC
      clear hn e1
      go_enter Tryz.func95, Tryz.ntmps95
      go_wp2_with fail
      refine HRC.out.mono ?_
      rintro e w' ⟨rfl, rfl⟩
      go_wp2
      go_ret2
      exact ⟨by rw [HF.out.1, HF.out.2]; rfl, HG.out⟩
    | true =>
      have e1 : reachC false [s] = 0 := by simp [reachC, hn]
      rw [e1] at HRC
      have hlook := HM.out.look s (nameB_size hn)
      cases hF : F s with
      | none =>
        have HF : Hid (findP false F s = none ∧ findC false F s = 62) := by constructor <;> simp [findP, findC, hn, hF]
        rw [hF] at hlook
        rw [show ptrV none = .pointer none from rfl] at hlook
        clear hn e1 hF
        go_enter Tryz.func95, Tryz.ntmps95
        go_wp2_with fail
        refine HRC.out.mono ?_
        rintro e w' ⟨rfl, rfl⟩
        go_wp2
        go_ret2
        exact ⟨by rw [HF.out.1, HF.out.2]; rfl, HG.out⟩
      | some b =>
        have HF : Hid (findP false F s = some b ∧ findC false F s = 0) := by constructor <;> simp [findP, findC, hn, hF]
        rw [hF] at hlook
        rw [show ptrV (some b) = .pointer (some ⟨b, 0, none⟩) from rfl] at hlook
        clear hn e1 hF
        go_enter Tryz.func95, Tryz.ntmps95
        go_wp2_with fail
        refine HRC.out.mono ?_
        rintro e w' ⟨rfl, rfl⟩
        go_wp2
        go_ret2
        exact ⟨by rw [HF.out.1, HF.out.2]; rfl, HG.out⟩
theorem d_roomNew (d mb n : Nat) (off set : Bool) (ah kp wr more : Int) (F : ByteArray → Option Nat) (s : ByteArray) (w : World) (h : DRow w d mb off set ah kp wr) (hm : MapIs w mb n F) (hs : s.size ≤ 64) (hF : F s = none) (hn : n < 1048576) :
    Calls Tryz.prog 66 #[.pointer (some ⟨d, 0, none⟩), .string s, .int .i64 more] w fun e w' => e = .returned (.bool (decide (more ≤ 4194304))) ∧ w = w' := by
  obtain ⟨c0, c1, c2, c3, c4, c5⟩ := h.cells
  have hlook := hm.look s hs
  rw [hF, show ptrV none = .pointer none from rfl] at hlook
  obtain ⟨m, hmn, hlen⟩ := hm.len 3
  have q0 : decide ((m : Int) < 1048576) = true := by simp; omega
  clear h hm hF c1 c2 c3 c4 c5
  go_enter Tryz.func66, Tryz.ntmps66
  go_wp2
  go_ret
  exact ⟨rfl, rfl⟩
theorem d_roomOld (d mb n b k c : Nat) (a : Option Addr) (off set : Bool) (ah kp wr more : Int) (syn : Nat) (F : ByteArray → Option Nat) (s : ByteArray) (w : World) (h : DRow w d mb off set ah kp wr) (hm : MapIs w mb n F) (hs : s.size ≤ 64) (hF : F s = some b) (hf : w.rowIs b 96 2 (FileF (.slice a k c) syn)) (hk : k ≤ 4194304) :
    Calls Tryz.prog 66 #[.pointer (some ⟨d, 0, none⟩), .string s, .int .i64 more] w fun e w' => e = .returned (.bool (decide (more ≤ 4194304 - (k : Int)))) ∧ w = w' := by
  obtain ⟨c0, c1, c2, c3, c4, c5⟩ := h.cells
  have hlook := hm.look s hs
  rw [hF, show ptrV (some b) = .pointer (some ⟨b, 0, none⟩) from rfl] at hlook
  have f0 : w.cell? ⟨b, 0, none⟩ = some (.slice a k c) := hf.cell (i := 0) (by omega)
  have hk0 : (0 : Int) ≤ 4194304 - (k : Int) := by omega
  have hk1 : (4194304 : Int) - (k : Int) ≤ 4194304 := by omega
  clear h hm hF hf c1 c2 c3 c4 c5
  go_enter Tryz.func66, Tryz.ntmps66
  go_wp2
  go_ret
  exact ⟨rfl, rfl⟩
end Go.Proofs.YtekejnjaiccnbaaGreatDoor

/- Package disk: a file, and what the power's going does to it. -/
namespace Go.Proofs.YtekejnjaiccnbaaGreatDoor
open Go.RowKit Go.Maps
set_option linter.unusedVariables false
set_option maxRecDepth 20000

/-- A file in block b. -/
structure FileIs (w : World) (base b : Nat) (a : Option Addr) (c : Nat) (zs : List Int) (syn : Nat) : Prop where
  row : w.rowIs b 96 2 (FileF (.slice a zs.length c) syn)
  own : SOwn byteE 5 w base (.slice a zs.length c) zs.length zs
  byte : ∀ z ∈ zs, 0 ≤ z ∧ z ≤ 255
  syn : syn ≤ zs.length
  len : zs.length ≤ 4194304
theorem FileIs.kept {w w' : World} {row : Option Nat} {base b c : Nat} {a : Option Addr} {zs : List Int} {syn : Nat} (h : FileIs w base b a c zs syn) (hg : w.grownBy w' row) (h1 : some b ≠ row) (h2 : ∀ x, a = some x → some x.block ≠ row) : FileIs w' base b a c zs syn := by
  refine ⟨h.row.of_block (hg.block b h.row.lt h1), SOwn.kept h.own hg ?_, h.byte, h.syn, h.len⟩
  cases a with
  | none => exact .inl rfl
  | some x => exact .inr (h2 x rfl)
theorem FileIs.drew {w : World} {base b c : Nat} {a : Option Addr} {zs : List Int} {syn : Nat} (h : FileIs w base b a c zs syn) : FileIs w.drew base b a c zs syn := ⟨h.row, h.own, h.byte, h.syn, h.len⟩
theorem shrink {w : World} {base k c : Nat} {a : Option Addr} {zs : List Int} (h : SOwn byteE 5 w base (.slice a k c) k zs) (m : Nat) (hm : m ≤ k) : SOwn byteE 5 w base (.slice a m c) m (zs.take m) := by
  have hl : zs.length = k := SOwn.len h
  unfold SOwn at h ⊢
  have e : byteE.flat (zs.take m) = (byteE.flat zs).take m := by rw [byteE_flat, byteE_flat, List.map_take]
  rw [e]
  have hf : (byteE.flat zs).length = k := by rw [byteE_flat, List.length_map, hl]
  refine ⟨by rw [List.length_take, hf]; show min m k = m * 1; omega, ?_⟩
  rcases h.2 with ⟨h', h0⟩ | ⟨g, cap, cur, h', h1, h2, h3, h4, h5, h6⟩
  · simp only [Value.slice.injEq] at h'
    obtain ⟨rfl, rfl, rfl⟩ := h'
    obtain rfl : m = 0 := by omega
    exact .inl ⟨rfl, rfl⟩
  · simp only [Value.slice.injEq] at h'
    obtain ⟨rfl, _, rfl⟩ := h'
    refine .inr ⟨g, c, cur, rfl, h1, h2, by omega, h4, h5, ?_⟩
    rw [← h6, List.take_take]
    congr 1
    show m * 1 = min m (k * 1)
    omega
/-- How many of u bytes that are not synced stay. -/
def keptN (keep : Int) (u : Nat) : Nat := ((if keep < 0 then 0 else keep) % ((u : Int) + 1)).toNat
theorem keptN_le (keep : Int) (u : Nat) : keptN keep u ≤ u := by
  unfold keptN
  have h1 := Int.emod_nonneg (if keep < 0 then 0 else keep) (show (u : Int) + 1 ≠ 0 by omega)
  have h2 := Int.emod_lt_of_pos (if keep < 0 then 0 else keep) (show (0 : Int) < (u : Int) + 1 by omega)
  omega
theorem two {P : Nat → Prop} (h0 : P 0) (h1 : P 1) : ∀ j, j < 2 → P j := by
  intro j hj
  match j, hj with
  | 0, _ => exact h0
  | 1, _ => exact h1
theorem FileIs.cut {w : World} {base b c : Nat} {a : Option Addr} {zs : List Int} {syn : Nat} (h : FileIs w base b a c zs syn) (S : Nat) (hS : S ≤ zs.length) : FileIs ((w.setCell ⟨b, 1, none⟩ (.int .i64 S)).setCell ⟨b, 0, none⟩ (.slice a S c)) base b a c (zs.take S) S := by
  have hl : (zs.take S).length = S := by rw [List.length_take]; omega
  have hg : w.grownBy ((w.setCell ⟨b, 1, none⟩ (.int .i64 S)).setCell ⟨b, 0, none⟩ (.slice a S c)) (some b) := gb_trans (gb_set rfl) (gb_set rfl) (fun k hk => .inr hk)
  refine ⟨?_, ?_, fun z hz => h.byte z (List.mem_of_mem_take hz), by omega, by have := h.len; omega⟩
  · rw [hl]
    exact ((h.row.set 1 (.int .i64 S)).set 0 (.slice a S c)).congr (two rfl rfl)
  · rw [hl]
    refine SOwn.kept (shrink h.own S hS) hg ?_
    cases a with
    | none => exact .inl rfl
    | some x =>
      right
      intro e
      simp only [Value.ownBlock, Option.some.injEq] at e
      obtain ⟨cur, h1, _⟩ := h.row
      rcases h.own.2 with ⟨h', _⟩ | ⟨g, cap, cur', h', _, h2, _⟩
      · simp at h'
      · simp only [Value.slice.injEq, Option.some.injEq] at h'
        obtain ⟨rfl, _⟩ := h'
        simp only at e
        rw [e, h1] at h2
        simp at h2
set_option maxHeartbeats 4000000 in
theorem d_lose (base b : Nat) (a : Option Addr) (c : Nat) (zs : List Int) (syn : Nat) (keep : Int) (w : World) (h : FileIs w base b a c zs syn) (hk : -9223372036854775808 ≤ keep ∧ keep ≤ 9223372036854775807) :
    Calls Tryz.prog 98 #[.pointer (some ⟨b, 0, none⟩), .int .i64 keep] w fun e w' => e = .returned (.tuple #[]) ∧ FileIs w' base b a c (zs.take (syn + keptN keep (zs.length - syn))) (syn + keptN keep (zs.length - syn)) ∧ w.grownBy w' (some b) := by
  have b0 : w.cell? ⟨b, 0, none⟩ = some (.slice a zs.length c) := h.row.cell (i := 0) (by omega)
  have b1 : w.cell? ⟨b, 1, none⟩ = some (.int .i64 syn) := h.row.cell (i := 1) (by omega)
  have f0 := h.row.frozen 0
  have f1 := h.row.frozen 1
  have hs := h.syn
  have hl := h.len
  obtain ⟨S, eS⟩ : ∃ S, S = syn + keptN keep (zs.length - syn) := ⟨_, rfl⟩
  have hSl : S ≤ zs.length := by have := keptN_le keep (zs.length - syn); omega
  rw [← eS]
  have HF : Hid (FileIs ((w.setCell ⟨b, 1, none⟩ (.int .i64 S)).setCell ⟨b, 0, none⟩ (.slice a S c)) base b a c (zs.take S) S) := h.cut S hSl
  have HG : Hid (w.grownBy ((w.setCell ⟨b, 1, none⟩ (.int .i64 S)).setCell ⟨b, 0, none⟩ (.slice a S c)) (some b)) := gb_trans (gb_set rfl) (gb_set rfl) (fun k hk => .inr hk)
  have hcap : zs.length ≤ c ∧ (c : Int) ≤ 9223372036854775807 ∧ ((∃ g, a = some ⟨g, 0, none⟩) ∨ (a = none ∧ zs.length = 0 ∧ c = 0)) := by
    rcases h.own.2 with ⟨h', h0⟩ | ⟨g, cap, cur', h', _, _, h3, h4, _⟩
    · simp only [Value.slice.injEq] at h'
      obtain ⟨rfl, _, rfl⟩ := h'
      exact ⟨by omega, by omega, .inr ⟨rfl, h0, rfl⟩⟩
    · simp only [Value.slice.injEq] at h'
      obtain ⟨rfl, _, rfl⟩ := h'
      unfold maxLen at h4
      exact ⟨h3, by omega, .inl ⟨g, rfl⟩⟩
  unfold keptN at eS
  obtain ⟨u, eu⟩ : ∃ u, u = zs.length - syn := ⟨_, rfl⟩
  have hu : (zs.length : Int) - (syn : Int) = (u : Int) := by omega
  have hub : u ≤ 4194304 := by omega
  rw [← eu] at eS
  generalize zs.length = L at b0 hs hl hSl hcap hu eu
  obtain ⟨km, hkm, hk0, hk1⟩ : ∃ km, (if keep < 0 then 0 else keep) = km ∧ 0 ≤ km ∧ km ≤ 9223372036854775807 := ⟨_, rfl, by split <;> omega, by split <;> omega⟩
  rw [hkm] at eS
  have hr0 := Int.emod_nonneg km (show (u : Int) + 1 ≠ 0 by omega)
  have hr1 := Int.emod_lt_of_pos km (show (0 : Int) < (u : Int) + 1 by omega)
  have hS : (syn : Int) + km % ((u : Int) + 1) = (S : Int) := by omega
  have hSc : (S : Int) ≤ (c : Int) := by omega
  have hS0 : (0 : Int) ≤ (S : Int) := by omega
  have hSb : (S : Int) ≤ 4194304 := by omega
  obtain ⟨hLc, hc1, hac⟩ := hcap
  clear h eS eu hSl hk
  rcases hac with ⟨g, rfl⟩ | ⟨rfl, rfl, rfl⟩
  · clear hs
    go_enter Tryz.func98, Tryz.ntmps98
    go_wp2
    go_region
    go_wp2
    go_region
    go_wp2
    go_region
    all_goals go_wp2
    all_goals go_end0
    all_goals exact ⟨rfl, HF.out.drew.drew.drew, gb_drew (gb_drew (gb_drew HG.out))⟩
  · obtain rfl : S = 0 := by omega
    obtain rfl : syn = 0 := by omega
    obtain rfl : u = 0 := by omega
    clear hs hu hr0 hr1 hS hSc hS0 hSb hLc hl hub hc1
    go_enter Tryz.func98, Tryz.ntmps98
    go_wp2
    go_region
    go_wp2
    go_region
    go_wp2
    go_region
    all_goals go_wp2
    all_goals go_end0
    all_goals exact ⟨rfl, HF.out.drew.drew.drew, gb_drew (gb_drew (gb_drew HG.out))⟩
end Go.Proofs.YtekejnjaiccnbaaGreatDoor

