/- Package disk: reach, find, hasRoom. -/
import Derived.Test.YtdnkdopjlobklaaDk1
namespace Go.Proofs.Ytdnkdopjlobklaa
open Go.RowKit Go.Maps
set_option linter.unusedVariables false
set_option maxRecDepth 20000

def strE : Elem ByteArray where
  cells s := [.string s]
  size := 1
  pos := by decide
  len _ := rfl
  one s v h := by
    simp only [List.mem_cons, List.mem_nil_iff, or_false] at h
    subst h
    rfl
theorem slit (w : World) (ls : List ByteArray) : SRd strE (w.alloc (.cells (strE.flat ls).toArray 9)) (some ⟨w.heap.size, 0, none⟩) ls := by
  refine .inr ⟨w.heap.size, 0, rfl, fun j v hj => ?_⟩
  rw [Nat.zero_add, cell_of_row _ w.heap.size j _ 9 _ (heap_alloc_new w _)]
  simpa using hj
def reachC (off : Bool) (l : List ByteArray) : Int := if off = true then 60 else if l.all nameB = true then 0 else 61
theorem all_takeN (l : List ByteArray) (k : Nat) (s : ByteArray) (hk : l[k]? = some s) : (l.take (k + 1)).all nameB = ((l.take k).all nameB && nameB s) := by
  rw [List.take_add_one, hk, List.all_append]
  simp
set_option maxHeartbeats 4000000 in
theorem d_reach (d mb : Nat) (off set : Bool) (ah kp wr : Int) (a : Option Addr) (l : List ByteArray) (L c : Nat) (w : World) (h : DRow w d mb off set ah kp wr) (hr : SRd strE w a l) (hL : l.length = L) (hL2 : L ≤ 1000) (hs : ∀ s ∈ l, (s.size : Int) ≤ 9223372036854775807) :
    Calls Try.prog 43 #[.pointer (some ⟨d, 0, none⟩), .slice a L c] w fun e w' => e = .returned (.int .i64 (reachC off l)) ∧ w = w' := by
  obtain ⟨c0, c1, c2, c3, c4, c5⟩ := h.cells
  clear h c0 c2 c3 c4 c5
  have HB := fun (s : ByteArray) (hs : (s.size : Int) ≤ 9223372036854775807) (w : World) => d_isName s hs w
  have HR : Hid (SRd strE w a l) := hr
  have HS : Hid (∀ s ∈ l, (s.size : Int) ≤ 9223372036854775807) := hs
  have HL : Hid (l.length = L) := hL
  clear hr hs hL
  cases off with
  | true =>
    go_enter Try.func43, Try.ntmps43
    go_wp2
    go_ret
    exact ⟨rfl, rfl⟩
  | false =>
    go_enter Try.func43, Try.ntmps43
    go_wp2
    go_loopw [13] (fun i wr => ∃ k : Nat, k ≤ L ∧ i = .int .i64 k ∧ (l.take k).all nameB = true ∧ wr = w) (fun i _ => L - (intOf i).toNat)
    case atStart => exact ⟨0, Nat.zero_le _, rfl, rfl, rfl⟩
    case round =>
      obtain ⟨k, hk, rfl, hall, rfl⟩ := hrel
      have HALL : Hid ((l.take k).all nameB = true) := hall
      clear hall
      by_cases hlt : k < L
      · have hi : (k : Int) < (L : Int) := by omega
        have hl := HL.out
        obtain ⟨ba, off, rfl, hcc⟩ := HR.out.at (by omega)
        obtain ⟨s, ex⟩ : ∃ x, l[k]? = some x := ⟨_, List.getElem?_eq_getElem (by omega)⟩
        have a0 : wr.cell? ⟨ba, off + k, none⟩ = some (.string s) := by have h := hcc k _ 0 _ ex rfl; simpa [strE] using h
        have hss := HS.out s (List.mem_of_getElem? ex)
        have HT : Hid ((l.take (k + 1)).all nameB = ((l.take k).all nameB && nameB s)) := all_takeN l k s ex
        clear hcc ex
        go_wp2_with fail
        refine (HB _ hss _).mono ?_
        rintro e w' ⟨rfl, rfl⟩
        cases hc : nameB s with
        | true =>
          have HC : Hid ((l.take (k + 1)).all nameB = true) := by show _ = _; rw [HT.out, HALL.out, hc]; rfl
          clear hc HT
          go_wp2
          go_roundw
          case rel => exact ⟨k + 1, by omega, by go_num, HC.out, (by trivial)⟩
          case measure => simp [intOf]; omega
        | false =>
          have HC : Hid (l.all nameB = false) := by
            show _ = _
            rw [← List.take_append_drop (k + 1) l, List.all_append, HT.out, HALL.out, hc]
            rfl
          clear hc HT
          go_wp2
          go_ret
          exact ⟨ret_int (by unfold reachC; rw [HC.out]; rfl), rfl⟩
      · have hkk : k = L := by omega
        have HC : Hid (l.all nameB = true) := by
          have h := HALL.out
          rw [hkk, ← HL.out, List.take_length] at h
          exact h
        have hi : ¬ (k : Int) < (L : Int) := by omega
        go_wp2
        go_ret
        exact ⟨ret_int (by unfold reachC; rw [HC.out]; rfl), rfl⟩
def findC (off : Bool) (F : ByteArray → Option Nat) (s : ByteArray) : Int := if off = true then 60 else if nameB s = false then 61 else if F s = none then 62 else 0
def findP (off : Bool) (F : ByteArray → Option Nat) (s : ByteArray) : Option Nat := if off = true ∨ nameB s = false then none else F s
theorem nameB_size {s : ByteArray} (h : nameB s = true) : s.size ≤ 64 := by
  unfold nameB at h
  simp only [Bool.and_eq_true, decide_eq_true_eq] at h
  exact h.1.2
set_option maxHeartbeats 4000000 in
theorem d_find (d mb n : Nat) (off set : Bool) (ah kp wr : Int) (F : ByteArray → Option Nat) (s : ByteArray) (w : World) (h : DRow w d mb off set ah kp wr) (hm : MapIs w mb n F) (hs : (s.size : Int) ≤ 9223372036854775807) :
    Calls Try.prog 47 #[.pointer (some ⟨d, 0, none⟩), .string s] w fun e w' => e = .returned (.tuple #[ptrV (findP off F s), .int .i64 (findC off F s)]) ∧ w.grownBy w' none := by
  obtain ⟨c0, c1, c2, c3, c4, c5⟩ := h.cells
  have hg := World.grownBy_alloc w (.cells #[.string s] 9) none
  have HG : Hid (w.grownBy (w.alloc (.cells #[.string s] 9)) none) := hg
  have HRC : Hid (Calls Try.prog 43 #[.pointer (some ⟨d, 0, none⟩), .slice (some ⟨w.heap.size, 0, none⟩) 1 1] (w.alloc (.cells #[.string s] 9)) fun e w' => e = .returned (.int .i64 (reachC off [s])) ∧ (w.alloc (.cells #[.string s] 9)) = w') := d_reach d mb off set ah kp wr (some ⟨w.heap.size, 0, none⟩) [s] 1 1 (w.alloc (.cells (strE.flat [s]).toArray 9)) (h.of_block (hg.block d h.lt (by simp))) (slit w [s]) rfl (by omega) (by intro x hx; simp only [List.mem_singleton] at hx; subst hx; exact hs)
  have HM : Hid (MapIs (w.alloc (.cells #[.string s] 9)) mb n F) := hm.kept hg (by simp)
  have c0' : (w.alloc (.cells #[.string s] 9)).cell? ⟨d, 0, none⟩ = some (.map (some mb)) := hg.cell c0 (by simp)
  have hdl : d < w.heap.size := h.lt
  have hdn : d ≠ w.heap.size := by omega
  clear h hm hg c2 c3 c4 c5
  cases off with
  | true =>
    go_enter Try.func47, Try.ntmps47
    go_wp2_with fail
    refine HRC.out.mono ?_
    rintro e w' ⟨rfl, rfl⟩
    rw [show reachC true [s] = 60 from rfl]
    go_wp2
    go_ret2
    exact ⟨rfl, HG.out⟩
  | false =>
    cases hn : nameB s with
    | false =>
      have e1 : reachC false [s] = 61 := by simp [reachC, hn]
      have HF : Hid (findP false F s = none ∧ findC false F s = 61) := by constructor <;> simp [findP, findC, hn]
      rw [e1] at HRC
      clear hn e1
      go_enter Try.func47, Try.ntmps47
      go_wp2_with fail
      refine HRC.out.mono ?_
      rintro e w' ⟨rfl, rfl⟩
      go_wp2
      go_ret2
      exact ⟨by rw [HF.out.1, HF.out.2]; rfl, HG.out⟩
    | true =>
      have e1 : reachC false [s] = 0 := by simp [reachC, hn]
      rw [e1] at HRC
      have hlook := HM.out.look s (nameB_size hn)
      cases hF : F s with
      | none =>
        have HF : Hid (findP false F s = none ∧ findC false F s = 62) := by constructor <;> simp [findP, findC, hn, hF]
        rw [hF] at hlook
        rw [show ptrV none = .pointer none from rfl] at hlook
        clear hn e1 hF
        go_enter Try.func47, Try.ntmps47
        go_wp2_with fail
        refine HRC.out.mono ?_
        rintro e w' ⟨rfl, rfl⟩
        go_wp2
        go_ret2
        exact ⟨by rw [HF.out.1, HF.out.2]; rfl, HG.out⟩
      | some b =>
        have HF : Hid (findP false F s = some b ∧ findC false F s = 0) := by constructor <;> simp [findP, findC, hn, hF]
        rw [hF] at hlook
        rw [show ptrV (some b) = .pointer (some ⟨b, 0, none⟩) from rfl] at hlook
        clear hn e1 hF
        go_enter Try.func47, Try.ntmps47
        go_wp2_with fail
        refine HRC.out.mono ?_
        rintro e w' ⟨rfl, rfl⟩
        go_wp2
        go_ret2
        exact ⟨by rw [HF.out.1, HF.out.2]; rfl, HG.out⟩
theorem d_roomNew (d mb n : Nat) (off set : Bool) (ah kp wr more : Int) (F : ByteArray → Option Nat) (s : ByteArray) (w : World) (h : DRow w d mb off set ah kp wr) (hm : MapIs w mb n F) (hs : s.size ≤ 64) (hF : F s = none) (hn : n < 1048576) :
    Calls Try.prog 44 #[.pointer (some ⟨d, 0, none⟩), .string s, .int .i64 more] w fun e w' => e = .returned (.bool (decide (more ≤ 4194304))) ∧ w = w' := by
  obtain ⟨c0, c1, c2, c3, c4, c5⟩ := h.cells
  have hlook := hm.look s hs
  rw [hF, show ptrV none = .pointer none from rfl] at hlook
  obtain ⟨m, hmn, hlen⟩ := hm.len 3
  have q0 : decide ((m : Int) < 1048576) = true := by simp; omega
  clear h hm hF c1 c2 c3 c4 c5
  go_enter Try.func44, Try.ntmps44
  go_wp2
  go_ret
  exact ⟨rfl, rfl⟩
theorem d_roomOld (d mb n b k c : Nat) (a : Option Addr) (off set : Bool) (ah kp wr more : Int) (syn : Nat) (F : ByteArray → Option Nat) (s : ByteArray) (w : World) (h : DRow w d mb off set ah kp wr) (hm : MapIs w mb n F) (hs : s.size ≤ 64) (hF : F s = some b) (hf : w.rowIs b 72 2 (FileF (.slice a k c) syn)) (hk : k ≤ 4194304) :
    Calls Try.prog 44 #[.pointer (some ⟨d, 0, none⟩), .string s, .int .i64 more] w fun e w' => e = .returned (.bool (decide (more ≤ 4194304 - (k : Int)))) ∧ w = w' := by
  obtain ⟨c0, c1, c2, c3, c4, c5⟩ := h.cells
  have hlook := hm.look s hs
  rw [hF, show ptrV (some b) = .pointer (some ⟨b, 0, none⟩) from rfl] at hlook
  have f0 : w.cell? ⟨b, 0, none⟩ = some (.slice a k c) := hf.cell (i := 0) (by omega)
  have hk0 : (0 : Int) ≤ 4194304 - (k : Int) := by omega
  have hk1 : (4194304 : Int) - (k : Int) ≤ 4194304 := by omega
  clear h hm hF hf c1 c2 c3 c4 c5
  go_enter Try.func44, Try.ntmps44
  go_wp2
  go_ret
  exact ⟨rfl, rfl⟩
end Go.Proofs.Ytdnkdopjlobklaa
