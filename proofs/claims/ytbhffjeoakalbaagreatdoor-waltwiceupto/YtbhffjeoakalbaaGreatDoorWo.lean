/- Package wal: dropOld, where nothing is old. -/
import Derived.Test.YtbhffjeoakalbaaGreatDoorWa
namespace Go.Proofs.YtbhffjeoakalbaaGreatDoor
open Go.RowKit Go.Maps Go.Sort
set_option linter.unusedVariables false
set_option maxRecDepth 20000

theorem elem75 : Tryz.prog.elem 75 = 3 := by simp [Program.elem, Tryz.underlying75]
theorem head75 (w : World) (a : Option Addr) (M C : Nat) : (Instr.slice 75 (.slice a M C) none (some (.int .i64 0)) none).run Tryz.prog w = .ok (.slice a 0 C) w := by
  rw [run_slice_h w 75 _ M C (by rw [elem75]; exact Tryz.underlying75) .i64 0 (by omega) (by omega), elem75, Tryz.sizeOf3]
  cases a with
  | none => simp [sliced, Result.andThen]
  | some y => simp [sliced, Result.andThen, Addr.add]
theorem tail75 (w : World) (a : Option Addr) (M C : Nat) (h : M ≤ C) : (Instr.slice 75 (.slice a M C) (some (.int .i64 0)) none none).run Tryz.prog w = .ok (.slice a M C) w := by
  rw [run_slice_l w 75 _ M C (by rw [elem75]; exact Tryz.underlying75) .i64 0 (by omega) (by omega), elem75, Tryz.sizeOf3]
  cases a with
  | none => simp [sliced, Result.andThen]
  | some y => simp [sliced, Result.andThen, Addr.add]
theorem w_searchNil (x : Int) (w : World) : Calls Tryz.prog 120 #[.slice none 0 0, .int .i64 x] w fun e w' => ∃ b, e = .returned (.tuple #[.int .i64 0, .bool b]) ∧ ∃ q, w' = w.drewN q := by
  go_enter Tryz.func120, Tryz.ntmps120
  go_wp2
  go_loopw [7, 8] (fun t7 t8 wr => t7 = .int .i64 0 ∧ t8 = .int .i64 0 ∧ wr = w) (fun _ _ _ => 0)
  case atStart => exact ⟨rfl, rfl, rfl⟩
  case round =>
    obtain ⟨rfl, rfl, rfl⟩ := hrel
    go_wp2
    go_ret2
    exact ⟨_, rfl, 0, rfl⟩
theorem w_search (base n c : Nat) (a : Option Addr) (segs : List Nat) (x : Nat) (w : World) (h : SOwn intE 3 w base (.slice a n c) n (nI segs)) (hs : segs.Pairwise (· < ·)) (hx : ∀ k ∈ segs, x ≤ k) (hn : n ≤ 4194304) (h0 : n = 0 → a = none ∧ c = 0) :
    Calls Tryz.prog 120 #[.slice a n c, .int .i64 (x : Int)] w fun e w' => ∃ b, e = .returned (.tuple #[.int .i64 0, .bool b]) ∧ ∃ q, w' = w.drewN q := by
  have hlen := h.len
  rw [nI_len] at hlen
  rcases Nat.eq_zero_or_pos n with hz | hz
  · subst hz
    obtain ⟨rfl, rfl⟩ := h0 rfl
    exact w_searchNil x w
  · obtain ⟨b, off, rfl, hc⟩ := h.rd.at (by rw [nI_len]; omega)
    refine (Tryz.slices_BinarySearch_int b off n c (nI segs) (x : Int) w (by rw [nI_len]; omega) (by omega) (fun j hj => ?_) ?_).mono ?_
    · have := hc j _ 0 _ (List.getElem?_eq_getElem hj) rfl
      rw [show j * intE.size + 0 = j from Nat.mul_one j] at this
      rw [this, List.getD_eq_getElem?_getD, List.getElem?_eq_getElem hj]
      rfl
    · rw [List.take_of_length_le (by rw [nI_len]; omega)]
      unfold nI
      rw [List.pairwise_map]
      exact hs.imp (fun hab => by show (Int.ofNat _) ≤ Int.ofNat _; exact Int.ofNat_le.2 (Nat.le_of_lt hab))
    · rintro e w' ⟨rfl, q, rfl⟩
      refine ⟨(nI segs).contains (x : Int), ?_, q, rfl⟩
      rw [List.take_of_length_le (by rw [nI_len]; omega)]
      have : (nI segs).countP (fun z => decide (z < (x : Int))) = 0 := by
        rw [List.countP_eq_zero]
        intro z hz
        obtain ⟨k, hk, rfl⟩ := List.mem_map.1 hz
        have := hx k hk
        simp
        omega
      rw [this]
      rfl
def lastN : Option (Nat × List (List Int)) → Nat
  | none => 0
  | some q => q.1
def cpNums : Option (Nat × List (List Int)) → List Nat
  | none => []
  | some q => [q.1]
def cpName (dir : ByteArray) : Option (Nat × List (List Int)) → ByteArray
  | none => ⟨#[]⟩
  | some q => cpN dir q.1
set_option maxHeartbeats 8000000 in
theorem w_dropOld (p d : Nat) (dir : ByteArray) (v : Value) (op : Int) (K : Option (Nat × List (List Int))) (segs : List Nat) (a0 a1 : Option Addr) (k0 k1 base0 b1 : Nat) (dr : Bool) (w : World) (hds : dir.size ≤ 64) (ht : Tab w) (hk8 : lastN K < 100000000) (h : WRow w p d dir ⟨#[]⟩ v op) (ho0 : SOwn intE 3 w base0 (.slice a0 (cpNums K).length k0) (cpNums K).length (nI (cpNums K))) (ho1 : SOwn intE 3 w b1 (.slice a1 segs.length k1) segs.length (nI segs)) (hsg : segs.Pairwise (· < ·)) (hgt : ∀ k ∈ segs, lastN K < k) (hn : segs.length ≤ 4194304) (h0 : segs = [] → a1 = none ∧ k1 = 0) (hpb : p < b1) :
    Calls Tryz.prog 92 #[.pointer (some ⟨p, 0, none⟩), FolderV (.slice a0 (cpNums K).length k0) (.slice a1 segs.length k1) dr] w fun e w' => e = .returned (.int .i64 (lastN K : Int)) ∧ WRow w' p d dir (cpName dir K) (.slice a1 segs.length k1) op ∧ w.grownBy w' (some p) := by
  obtain ⟨L, eL⟩ : ∃ L, L = segs.length := ⟨_, rfl⟩
  have EL : Hid (L = segs.length) := eL
  have hgB : w.grownBy (w.alloc (.cells #[.slice a0 (cpNums K).length k0, .slice a1 L k1, .bool dr] 115)) none := World.grownBy_alloc w _ none
  have HGB : Hid (w.grownBy (w.alloc (.cells #[.slice a0 (cpNums K).length k0, .slice a1 L k1, .bool dr] 115)) none) := hgB
  have hrow := World.rowIs_alloc w #[.slice a0 (cpNums K).length k0, .slice a1 L k1, .bool dr] 115 (lookF (.slice a0 (cpNums K).length k0) (.slice a1 L k1) dr) (three rfl rfl rfl)
  have HROW : Hid ((w.alloc (.cells #[.slice a0 (cpNums K).length k0, .slice a1 L k1, .bool dr] 115)).rowIs w.heap.size 115 3 (lookF (.slice a0 (cpNums K).length k0) (.slice a1 L k1) dr)) := hrow
  have f0 : (w.alloc (.cells #[.slice a0 (cpNums K).length k0, .slice a1 L k1, .bool dr] 115)).cell? ⟨w.heap.size, 0, none⟩ = some (.slice a0 (cpNums K).length k0) := HROW.out.cell (i := 0) (by omega)
  have f1 : (w.alloc (.cells #[.slice a0 (cpNums K).length k0, .slice a1 L k1, .bool dr] 115)).cell? ⟨w.heap.size, 1, none⟩ = some (.slice a1 L k1) := HROW.out.cell (i := 1) (by omega)
  have HW : Hid (WRow (w.alloc (.cells #[.slice a0 (cpNums K).length k0, .slice a1 L k1, .bool dr] 115)) p d dir ⟨#[]⟩ v op) := h.kept hgB (by simp)
  have HPW : Hid (p < w.heap.size) := h.lt
  rw [← eL] at ho1 hn
  have HO1 : Hid (SOwn intE 3 w b1 (.slice a1 L k1) L (nI segs)) := ho1
  have HLK : Hid (L ≤ k1) := (sown_cap ho1).1
  have HS : Hid (∀ W : World, w.grownBy W (some p) → Calls Tryz.prog 120 #[.slice a1 L k1, .int .i64 ((lastN K : Int) + 1)] W fun e w' => ∃ b, e = .returned (.tuple #[.int .i64 0, .bool b]) ∧ ∃ q, w' = W.drewN q) := fun W hg => by
    have := w_search b1 L k1 a1 segs (lastN K + 1) W (SOwn.kept ho1 hg (.inr (fun e => by have := (ho1.block _ e).1; omega))) hsg (fun k hk => hgt k hk) hn (fun e => h0 (List.eq_nil_of_length_eq_zero (by rw [← eL]; exact e)))
    exact this
  have hsl0 : ∀ W : World, (Instr.slice 75 (.slice a1 L k1) none (some (.int .i64 0)) none).run Tryz.prog W = .ok (.slice a1 0 k1) W := fun W => head75 W a1 L k1
  have hsl1 : ∀ W : World, (Instr.slice 75 (.slice a1 L k1) (some (.int .i64 0)) none none).run Tryz.prog W = .ok (.slice a1 L k1) W := fun W => tail75 W a1 L k1 HLK.out
  rw [← eL]
  unfold FolderV
  clear h ho1 hsg hgt h0 eL hgB hrow
  go_enter Tryz.func92, Tryz.ntmps92
  go_upto_if 17 with fail
  go_cut [5] from 6 (fun t5 wc => t5 = .int .i64 (lastN K : Int) ∧ WRow wc p d dir (cpName dir K) v op ∧ wc.cell? ⟨w.heap.size, 1, none⟩ = some (.slice a1 L k1) ∧ w.grownBy wc (some p))
  case first =>
    cases K with
    | none =>
      go_wp2_with fail
      go_meet
      exact ⟨rfl, HW.out, f1, gb_any HGB.out _⟩
    | some q =>
      obtain ⟨b, off, rfl, hcell⟩ := nI_cell ho0.rd (l := cpNums (some q)) (i := 0) (k := q.1) rfl
      have hcell' := HGB.out.cell hcell (by simp)
      have hslc : ∀ W : World, (Instr.slice 75 (.slice (some ⟨b, off, none⟩) (cpNums (some q)).length k0) none (some (.int .i64 0)) none).run Tryz.prog W = .ok (.slice (some ⟨b, off, none⟩) 0 k0) W := fun W => head75 W _ _ k0
      rw [show (cpNums (some q)).length = 1 from rfl] at *
      rw [show decide (0 < 1) = true from rfl]
      have HCN : Hid (Calls Tryz.prog 98 #[.pointer (some ⟨p, 0, none⟩), .int .i64 (q.1 : Int)] (w.alloc (.cells #[.slice (some ⟨b, off, none⟩) 1 k0, .slice a1 L k1, .bool dr] 115)) fun e w' => e = .returned (.string (cpN dir q.1)) ∧ (w.alloc (.cells #[.slice (some ⟨b, off, none⟩) 1 k0, .slice a1 L k1, .bool dr] 115)).grownBy w' none) := w_cpoint p d dir ⟨#[]⟩ v op q.1 hk8 _ hds (ht.grown HGB.out) HW.out
      simp only [Nat.add_zero] at hcell'
      go_wp2_with fail
      refine HCN.out.mono ?_
      rintro e w2 ⟨rfl, hg2⟩
      have hW2 := HW.out.kept hg2 (by simp)
      have z2 := hW2.frozen 2
      have y2 : w2.cell? ⟨p, 2, none⟩ = some (.string ⟨#[]⟩) := hW2.cells.2.2.1
      have hr2 := HROW.out.of_block (hg2.block _ HROW.out.lt (by simp))
      have hr3 := hr2.setOther (a := ⟨p, 2, none⟩) (by have := HPW.out; show w.heap.size ≠ p; omega) (.string (cpN dir q.1))
      have g0 : (w2.setCell ⟨p, 2, none⟩ (.string (cpN dir q.1))).cell? ⟨w.heap.size, 0, none⟩ = some (.slice (some ⟨b, off, none⟩) 1 k0) := hr3.cell (i := 0) (by omega)
      have g1 : (w2.setCell ⟨p, 2, none⟩ (.string (cpN dir q.1))).cell? ⟨w.heap.size, 1, none⟩ = some (.slice a1 L k1) := hr3.cell (i := 1) (by omega)
      have HW3 : Hid (WRow (w2.setCell ⟨p, 2, none⟩ (.string (cpN dir q.1))) p d dir (cpN dir q.1) v op) := (hW2.set 2 (.string (cpN dir q.1))).congr (five rfl rfl rfl rfl rfl)
      have HG3 : Hid (w.grownBy (w2.setCell ⟨p, 2, none⟩ (.string (cpN dir q.1))) (some p)) := gb_trans (gb_any (HGB.out.trans hg2) _) (gb_set rfl) (fun k hk => .inr hk)
      clear hg2 hW2 hr2 hr3
      go_wp2_with fail
      go_loopw [36] (fun t36 wr => t36 = .int .i64 0 ∧ wr = w2.setCell ⟨p, 2, none⟩ (.string (cpN dir q.1))) (fun _ _ => 0)
      case atStart => exact ⟨rfl, rfl⟩
      case round =>
        obtain ⟨rfl, rfl⟩ := hrel
        go_wp2_with fail
        go_meet
        exact ⟨rfl, HW3.out, g1, HG3.out⟩
  case rest =>
    obtain ⟨rfl, hW, f1c, hgc⟩ := hcut
    have HS2 := HS.out wc hgc
    have HWc : Hid (WRow wc p d dir (cpName dir K) v op) := hW
    have HGc : Hid (w.grownBy wc (some p)) := hgc
    clear hW hgc f0 f1
    go_wp2_with fail
    refine HS2.mono ?_
    rintro e w2 ⟨b, rfl, q, rfl⟩
    have f1d : (wc.drewN q).cell? ⟨w.heap.size, 1, none⟩ = some (.slice a1 L k1) := f1c
    have hW2 : WRow (wc.drewN q) p d dir (cpName dir K) v op := HWc.out.kept (gb_drewN wc q) (by simp)
    have y3 := hW2.cells.2.2.2.1
    have z3 := hW2.frozen 3
    have HW3 : Hid (WRow ((wc.drewN q).setCell ⟨p, 3, none⟩ (.slice a1 L k1)) p d dir (cpName dir K) (.slice a1 L k1) op) := (hW2.set 3 (.slice a1 L k1)).congr (five rfl rfl rfl rfl rfl)
    have HG3 : Hid (w.grownBy ((wc.drewN q).setCell ⟨p, 3, none⟩ (.slice a1 L k1)) (some p)) := gb_trans (gb_drewR HGc.out q) (gb_set rfl) (fun k hk => .inr hk)
    clear hW2
    go_wp2_with fail
    go_loopw [63] (fun t63 wr => t63 = .int .i64 0 ∧ wr = wc.drewN q) (fun _ _ => 0)
    case atStart => exact ⟨rfl, rfl⟩
    case round =>
      obtain ⟨rfl, rfl⟩ := hrel
      go_wp2
      go_ret
      exact ⟨rfl, HW3.out, HG3.out⟩
end Go.Proofs.YtbhffjeoakalbaaGreatDoor
