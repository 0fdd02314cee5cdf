/- Package wal: the small calls: names of files, their numbers, what is thrown. -/
import Derived.Test.YtekejnjaiccnbaaGreatDoorWn
import Derived.Test.YtekejnjaiccnbaaGreatDoorMq
import Derived.Lib.AppendIntMem
import Derived.Recover
namespace Go.Proofs.YtekejnjaiccnbaaGreatDoor
open Go.RowKit Go.Maps Go.Sort
set_option linter.unusedVariables false
set_option maxRecDepth 20000

/-- The library's table of tens, which its numerals are made by. -/
def Tab (w : World) : Prop := Lib.TabIs Tryz.prog w "internal/strconv.uint64pow10" .u64 Lib.pow10Tab
theorem Tab.grown {w w' : World} (h : Tab w) (hg : w.grownBy w' none) : Tab w' := by
  unfold Tab Lib.TabIs World.var? at h ⊢
  cases hn : Tryz.prog.globalNamed "internal/strconv.uint64pow10" with
  | none => rw [hn] at h; cases h
  | some g =>
    rw [hn] at h
    simp only [Option.bind_some] at h ⊢
    have hlt : g < w.heap.size := by
      rcases Nat.lt_or_ge g w.heap.size with h1 | h1
      · exact h1
      · rw [Array.getElem?_eq_none h1] at h; cases h
    rw [hg.block g hlt (by simp)]
    exact h
theorem gb_grow (w : World) (k : Nat) (os : Array Obj) : w.grownBy (grow (w.drewN k) os) none := below_gb (Lib.below_grow _ w (Nat.le_refl _) k os)
theorem itoa_len {k : Nat} (hk : k < 100000000) : ((Lib.itoa (k : Int)).length ≤ 8) ∧ Lib.itoa (k : Int) = Lib.decDigits k ∧ (Lib.itoa (k : Int)).length = Lib.nDigits k := by
  have e : Lib.itoa (k : Int) = Lib.decDigits k := by
    unfold Lib.itoa
    rw [if_neg (by omega)]
    simp
  rw [e, Lib.decDigits_length]
  exact ⟨nDigits_le (by decide) (by simpa using hk), rfl, rfl⟩
theorem repeatL_one (c : Nat) : Lib.repeatL [48] c = List.replicate c 48 := by
  induction c with
  | zero => rfl
  | succ c ih => rw [Lib.repeatL, ih]; rfl
theorem ba_app (a b : ByteArray) : a ++ b = bN (a.data.toList ++ b.data.toList) := by
  apply ByteArray.ext
  rw [ByteArray.data_append]
  simp [bN]
theorem w_itoa (k : Nat) (hk : k < 100000000) (w : World) (ht : Tab w) : Calls Tryz.prog 125 #[.int .i64 (k : Int)] w fun e w' => e = .returned (.string (bN (Lib.decDigits k))) ∧ w.grownBy w' none := by
  refine (Tryz.strconv_Itoa (k : Int) (by omega) (by omega) w ht).mono ?_
  rintro e w' ⟨rfl, j, os, rfl⟩
  exact ⟨by rw [(itoa_len hk).2.1]; rfl, gb_grow w j os⟩
theorem w_zeros (c : Nat) (hc : c ≤ 8) (w : World) : Calls Tryz.prog 126 #[.string ⟨#[48]⟩, .int .i64 (c : Int)] w fun e w' => e = .returned (.string (bN (List.replicate c 48))) ∧ w.grownBy w' none := by
  refine (Tryz.strings_Repeat ⟨#[48]⟩ c w (by omega) (by show 1 * c ≤ _; omega)).mono ?_
  rintro e w' ⟨rfl, hb⟩
  refine ⟨?_, below_gb hb⟩
  rw [← repeatL_one]
  rfl
set_option maxHeartbeats 1000000 in
theorem w_eight (k : Nat) (hk : k < 100000000) (w : World) (ht : Tab w) : Calls Tryz.prog 97 #[.int .i64 (k : Int)] w fun e w' => e = .returned (.string (bN (d8 k))) ∧ w.grownBy w' none := by
  have hl := itoa_len hk
  have HI := w_itoa k hk w ht
  have hsz : ((bN (Lib.decDigits k)).size : Int) = (Lib.nDigits k : Int) := by rw [bN_size, Lib.decDigits_length]
  have hn8 : Lib.nDigits k ≤ 8 := by rw [← hl.2.2]; exact hl.1
  have hmax : (if (8 : Int) - ((bN (Lib.decDigits k)).size : Int) > 0 then (8 : Int) - ((bN (Lib.decDigits k)).size : Int) else 0) = ((8 - Lib.nDigits k : Nat) : Int) := by
    rw [hsz]; split <;> omega
  have HR : Hid (∀ w1 : World, Calls Tryz.prog 126 #[.string ⟨#[48]⟩, .int .i64 (((8 - Lib.nDigits k : Nat) : Int))] w1 fun e w' => e = .returned (.string (bN (List.replicate (8 - Lib.nDigits k) 48))) ∧ w1.grownBy w' none) := fun w1 => w_zeros _ (by omega) w1
  have HE : Hid (bN (List.replicate (8 - Lib.nDigits k) 48) ++ bN (Lib.decDigits k) = bN (d8 k)) := by
    show _ = _
    rw [ba_app, bN_list, bN_list, d8_pad hk]
  clear hl
  go_enter Tryz.func97, Tryz.ntmps97
  go_wp2_with fail
  refine HI.mono ?_
  rintro e w1 ⟨rfl, hg1⟩
  have HG1 : Hid (w.grownBy w1 none) := hg1
  clear hg1 HI
  go_wp2_with fail
  rw [show max 0 (8 - (Lib.nDigits k : Int)) = ((8 - Lib.nDigits k : Nat) : Int) by omega]
  refine (HR.out w1).mono ?_
  rintro e w2 ⟨rfl, hg2⟩
  have HG2 : Hid (w.grownBy w2 none) := HG1.out.trans hg2
  have q1 : ¬ (9223372036854775807 : Nat) < (bN (List.replicate (8 - Lib.nDigits k) 48)).size + (bN (Lib.decDigits k)).size := by rw [bN_size, bN_size, List.length_replicate, Lib.decDigits_length]; omega
  clear hg2
  go_wp2
  go_ret
  exact ⟨ret_str HE.out, HG2.out⟩
/-- A log's struct. -/
def WalF (d : Nat) (dir cp : ByteArray) (v : Value) (op : Int) : Nat → Value
  | 0 => .pointer (some ⟨d, 0, none⟩)
  | 1 => .string dir
  | 2 => .string cp
  | 3 => v
  | _ => .int .i64 op
abbrev WRow (w : World) (p d : Nat) (dir cp : ByteArray) (v : Value) (op : Int) : Prop := w.rowIs p 77 5 (WalF d dir cp v op)
theorem WRow.cells {w : World} {p d : Nat} {dir cp : ByteArray} {v : Value} {op : Int} (h : WRow w p d dir cp v op) :
    w.cell? ⟨p, 0, none⟩ = some (.pointer (some ⟨d, 0, none⟩)) ∧ w.cell? ⟨p, 1, none⟩ = some (.string dir) ∧ w.cell? ⟨p, 2, none⟩ = some (.string cp) ∧ w.cell? ⟨p, 3, none⟩ = some v ∧ w.cell? ⟨p, 4, none⟩ = some (.int .i64 op) :=
  ⟨h.cell (i := 0) (by omega), h.cell (i := 1) (by omega), h.cell (i := 2) (by omega), h.cell (i := 3) (by omega), h.cell (i := 4) (by omega)⟩
theorem five {P : Nat → Prop} (h0 : P 0) (h1 : P 1) (h2 : P 2) (h3 : P 3) (h4 : P 4) : ∀ j, j < 5 → P j := by
  intro j hj
  match j, hj with
  | 0, _ => exact h0
  | 1, _ => exact h1
  | 2, _ => exact h2
  | 3, _ => exact h3
  | 4, _ => exact h4
theorem WRow.kept {w w' : World} {p d : Nat} {dir cp : ByteArray} {v : Value} {op : Int} {row : Option Nat} (h : WRow w p d dir cp v op) (hg : w.grownBy w' row) (hne : some p ≠ row) : WRow w' p d dir cp v op := h.of_block (hg.block p h.lt hne)
theorem w_draft (p d : Nat) (dir cp : ByteArray) (v : Value) (op : Int) (w : World) (hds : dir.size ≤ 64) (h : WRow w p d dir cp v op) : Calls Tryz.prog 92 #[.pointer (some ⟨p, 0, none⟩)] w fun e w' => e = .returned (.string (newN dir)) ∧ w = w' := by
  obtain ⟨c0, c1, c2, c3, c4⟩ := h.cells
  have q1 : ¬ (9223372036854775807 : Nat) < dir.size + 4 := by omega
  clear h
  go_enter Tryz.func92, Tryz.ntmps92
  go_wp2
  go_ret
  exact ⟨ret_str (ba_app _ _), rfl⟩
theorem w_done0 (w : World) : Calls Tryz.prog 52 #[.int .i64 0] w fun e w' => e = .returned (.tuple #[]) ∧ w = w' := by
  go_enter Tryz.func52, Tryz.ntmps52
  go_wp2
  go_end0
  exact ⟨rfl, rfl⟩
theorem seg_eq (dir : ByteArray) (k : Nat) : dir ++ ⟨#[47, 115]⟩ ++ bN (d8 k) = segN dir k := by
  rw [ba_app, ba_app, bN_list, bN_list, segN, List.append_assoc]
theorem cp_eq (dir : ByteArray) (k : Nat) : dir ++ ⟨#[47, 99]⟩ ++ bN (d8 k) = cpN dir k := by
  rw [ba_app, ba_app, bN_list, bN_list, cpN, List.append_assoc]
set_option maxHeartbeats 4000000 in
theorem w_segment (p d : Nat) (dir cp : ByteArray) (v : Value) (op : Int) (k : Nat) (hk : k < 100000000) (w : World) (hds : dir.size ≤ 64) (ht : Tab w) (h : WRow w p d dir cp v op) : Calls Tryz.prog 54 #[.pointer (some ⟨p, 0, none⟩), .int .i64 (k : Int)] w fun e w' => e = .returned (.string (segN dir k)) ∧ w.grownBy w' none := by
  obtain ⟨c0, c1, c2, c3, c4⟩ := h.cells
  have HGD : Hid (w.grownBy w.drew none) := gb_drew (World.grownBy.refl _ _)
  have HT : Hid (Tab w.drew) := ht.grown HGD.out
  have HR : Hid (WRow w p d dir cp v op) := h
  have q1 : ¬ (9223372036854775807 : Nat) < dir.size + 2 := by omega
  have q2 : ¬ (9223372036854775807 : Nat) < dir.size + 2 + (bN (d8 k)).size := by rw [bN_size, d8_len]; omega
  clear h c0 c2 c3 c4
  go_enter Tryz.func54, Tryz.ntmps54
  go_wp2_with fail
  go_region_with (first
    | (go_at_call 97; refine (w_eight k hk _ ?_).mono ?_; exact HT.out; rintro e w' ⟨rfl, hg⟩; have HG : Hid (w.grownBy w' none) := HGD.out.trans hg; have c1' := (HR.out.kept HG.out (by simp)).cells.2.1; clear hg)
    | fail)
  all_goals go_wp2
  all_goals go_ret
  all_goals exact ⟨ret_str (seg_eq dir k), HG.out⟩
set_option maxHeartbeats 4000000 in
theorem w_cpoint (p d : Nat) (dir cp : ByteArray) (v : Value) (op : Int) (k : Nat) (hk : k < 100000000) (w : World) (hds : dir.size ≤ 64) (ht : Tab w) (h : WRow w p d dir cp v op) : Calls Tryz.prog 99 #[.pointer (some ⟨p, 0, none⟩), .int .i64 (k : Int)] w fun e w' => e = .returned (.string (cpN dir k)) ∧ w.grownBy w' none := by
  obtain ⟨c0, c1, c2, c3, c4⟩ := h.cells
  have HGD : Hid (w.grownBy w.drew none) := gb_drew (World.grownBy.refl _ _)
  have HT : Hid (Tab w.drew) := ht.grown HGD.out
  have HR : Hid (WRow w p d dir cp v op) := h
  have q1 : ¬ (9223372036854775807 : Nat) < dir.size + 2 := by omega
  have q2 : ¬ (9223372036854775807 : Nat) < dir.size + 2 + (bN (d8 k)).size := by rw [bN_size, d8_len]; omega
  clear h c0 c2 c3 c4
  go_enter Tryz.func99, Tryz.ntmps99
  go_wp2_with fail
  go_region_with (first
    | (go_at_call 97; refine (w_eight k hk _ ?_).mono ?_; exact HT.out; rintro e w' ⟨rfl, hg⟩; have HG : Hid (w.grownBy w' none) := HGD.out.trans hg; have c1' := (HR.out.kept HG.out (by simp)).cells.2.1; clear hg)
    | fail)
  all_goals go_wp2
  all_goals go_ret
  all_goals exact ⟨ret_str (cp_eq dir k), HG.out⟩
theorem w_parse (t : ByteArray) (k : Nat) (ht : t.data.toList = d8 k) (hk : k < 100000000) (w : World) : Calls Tryz.prog 142 #[.string t, .int .i64 10, .int .i64 32] w fun e w' => e = .returned (.tuple #[.int .u64 (k : Int), .nilIface]) ∧ w.grownBy w' none := by
  have hts : t.size = 8 := by
    have : t.data.toList.length = t.size := Array.length_toList
    rw [ht, d8_len] at this
    omega
  have HI := Tryz.internal_strconv_ParseUint_10_b32 t (by omega) (by omega) w
  rw [ht, d8_parse hk] at HI
  have HG : Hid (w.grownBy (Lib.bytesWorld w 5 t) none) := by
    show w.grownBy _ none
    exact ⟨rfl, rfl, rfl, by rw [Go.Lib.bytesWorld_size]; omega, fun k hk _ => Go.Lib.bytesWorld_at_old w 5 t k hk⟩
  clear ht
  go_enter Tryz.func142, Tryz.ntmps142
  go_wp2_with fail
  refine HI.mono ?_
  rintro e w1 ⟨rfl, rfl⟩
  rw [show Lib.uintTupleM 189 4294967295 (Lib.NumEnd.ok k) = .tuple #[.int .u64 (k : Int), .nilIface] from rfl]
  go_wp2
  go_ret2
  exact ⟨rfl, HG.out⟩
end Go.Proofs.YtekejnjaiccnbaaGreatDoor
