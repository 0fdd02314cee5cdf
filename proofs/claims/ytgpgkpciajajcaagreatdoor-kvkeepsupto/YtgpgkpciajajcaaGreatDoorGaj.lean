/- Several texts in one: Fm, Ws, Xf, Wt. -/
import Derived.Test.YtgpgkpciajajcaaGreatDoorGai
import Derived.Test.YtgpgkpciajajcaaGreatDoorGag
import Derived.Lib.AppendIntMem
import Derived.Recover
import Derived.Test.YtgpgkpciajajcaaGreatDoorCards
import Derived.Test.YtgpgkpciajajcaaGreatDoorTie
import Derived.Deep.DeepHandedRow
import Derived.Deep.DeepWitnessRowRef
import Derived.Lib.LaidTab
/- The frames of package codec are a framing. -/
namespace Go.Proofs.YtgpgkpciajajcaaGreatDoor
set_option linter.unusedVariables false

theorem uframe_cutAt (xs rec : List Int) (hr : rec.length ≤ 65536) (i : Nat) (hi : i < (frameR rec).length) : uframeR (xs ++ (frameR rec).take i) xs.length = ([], 0, 20) := by
  have h4 : (four (sumR rec)).length = 4 := rfl
  have hfl : (frameR rec).length = (enc rec.length).length + 4 + rec.length := by rw [frameR]; simp [h4]; omega
  have ef : frameR rec = enc rec.length ++ (four (sumR rec) ++ rec) := by rw [frameR]; simp
  by_cases h : i < (enc rec.length).length
  · have e1 : (frameR rec).take i = (enc rec.length).take i := by rw [ef, List.take_append_of_le_length (by omega)]
    have hu : uintR (xs ++ (frameR rec).take i) xs.length = (0, 0, 20) := by
      unfold uintR
      rw [if_neg (by simp; omega)]
      exact ud_cut _ _ 9 0 rec.length i 0 rfl (by omega) (by rw [e1]; simp) h (by simp; omega)
    unfold uframeR
    rw [hu]
    simp
  · have e1 : (frameR rec).take i = enc rec.length ++ (four (sumR rec) ++ rec).take (i - (enc rec.length).length) := by
      rw [ef, List.take_append]
      rw [List.take_of_length_le (by omega)]
    have hu := uintR_at xs ((four (sumR rec) ++ rec).take (i - (enc rec.length).length)) rec.length (by omega) (xs ++ (frameR rec).take i) (by rw [e1]) xs.length rfl
    unfold uframeR
    rw [hu]
    have hl : (xs ++ (frameR rec).take i).length = xs.length + i := by simp; omega
    simp only [ne_eq, not_true_eq_false, if_false, hl]
    rw [if_neg (by omega), if_pos (by simp; omega)]
/-- A record at a place, if one stands whole there. -/
def ufO (zs : List Int) (p : Nat) : Option (List Int × Nat) := if (uframeR zs p).2.2 = 0 then some ((uframeR zs p).1, (uframeR zs p).2.1.toNat) else none
theorem framing : Framing frameR ufO where
  pos r := by
    rw [frameR]
    have := enc_len_pos r.length
    simp; omega
  whole xs r ys hr := by
    unfold ufO
    rw [uframeR_at xs ys r hr _ rfl _ rfl]
    simp
    omega
  torn xs r i hr hi := by
    unfold ufO
    rw [uframe_cutAt xs r hr i hi]
    simp
end Go.Proofs.YtgpgkpciajajcaaGreatDoor

/- Package wal: the small calls: names of files, their numbers, what is thrown. -/
namespace Go.Proofs.YtgpgkpciajajcaaGreatDoor
open Go.RowKit Go.Maps Go.Sort
set_option linter.unusedVariables false
set_option maxRecDepth 20000

/-- The library's table of tens, which its numerals are made by. -/
def Tab (w : World) : Prop := Lib.TabIs Tryz.prog w "internal/strconv.uint64pow10" .u64 Lib.pow10Tab
theorem Tab.grown {w w' : World} (h : Tab w) (hg : w.grownBy w' none) : Tab w' := by
  unfold Tab Lib.TabIs World.var? at h ⊢
  cases hn : Tryz.prog.globalNamed "internal/strconv.uint64pow10" with
  | none => rw [hn] at h; cases h
  | some g =>
    rw [hn] at h
    simp only [Option.bind_some] at h ⊢
    have hlt : g < w.heap.size := by
      rcases Nat.lt_or_ge g w.heap.size with h1 | h1
      · exact h1
      · rw [Array.getElem?_eq_none h1] at h; cases h
    rw [hg.block g hlt (by simp)]
    exact h
theorem gb_grow (w : World) (k : Nat) (os : Array Obj) : w.grownBy (grow (w.drewN k) os) none := below_gb (Lib.below_grow _ w (Nat.le_refl _) k os)
theorem itoa_len {k : Nat} (hk : k < 100000000) : ((Lib.itoa (k : Int)).length ≤ 8) ∧ Lib.itoa (k : Int) = Lib.decDigits k ∧ (Lib.itoa (k : Int)).length = Lib.nDigits k := by
  have e : Lib.itoa (k : Int) = Lib.decDigits k := by
    unfold Lib.itoa
    rw [if_neg (by omega)]
    simp
  rw [e, Lib.decDigits_length]
  exact ⟨nDigits_le (by decide) (by simpa using hk), rfl, rfl⟩
theorem repeatL_one (c : Nat) : Lib.repeatL [48] c = List.replicate c 48 := by
  induction c with
  | zero => rfl
  | succ c ih => rw [Lib.repeatL, ih]; rfl
theorem ba_app (a b : ByteArray) : a ++ b = bN (a.data.toList ++ b.data.toList) := by
  apply ByteArray.ext
  rw [ByteArray.data_append]
  simp [bN]
theorem w_itoa (k : Nat) (hk : k < 100000000) (w : World) (ht : Tab w) : Calls Tryz.prog 164 #[.int .i64 (k : Int)] w fun e w' => e = .returned (.string (bN (Lib.decDigits k))) ∧ w.grownBy w' none := by
  refine (Tryz.strconv_Itoa (k : Int) (by omega) (by omega) w ht).mono ?_
  rintro e w' ⟨rfl, j, os, rfl⟩
  exact ⟨by rw [(itoa_len hk).2.1]; rfl, gb_grow w j os⟩
theorem w_zeros (c : Nat) (hc : c ≤ 8) (w : World) : Calls Tryz.prog 165 #[.string ⟨#[48]⟩, .int .i64 (c : Int)] w fun e w' => e = .returned (.string (bN (List.replicate c 48))) ∧ w.grownBy w' none := by
  refine (Tryz.strings_Repeat ⟨#[48]⟩ c w (by omega) (by show 1 * c ≤ _; omega)).mono ?_
  rintro e w' ⟨rfl, hb⟩
  refine ⟨?_, below_gb hb⟩
  rw [← repeatL_one]
  rfl
set_option maxHeartbeats 1000000 in
theorem w_eight (k : Nat) (hk : k < 100000000) (w : World) (ht : Tab w) : Calls Tryz.prog 138 #[.int .i64 (k : Int)] w fun e w' => e = .returned (.string (bN (d8 k))) ∧ w.grownBy w' none := by
  have hl := itoa_len hk
  have HI := w_itoa k hk w ht
  have hsz : ((bN (Lib.decDigits k)).size : Int) = (Lib.nDigits k : Int) := by rw [bN_size, Lib.decDigits_length]
  have hn8 : Lib.nDigits k ≤ 8 := by rw [← hl.2.2]; exact hl.1
  have hmax : (if (8 : Int) - ((bN (Lib.decDigits k)).size : Int) > 0 then (8 : Int) - ((bN (Lib.decDigits k)).size : Int) else 0) = ((8 - Lib.nDigits k : Nat) : Int) := by
    rw [hsz]; split <;> omega
  have HR : Hid (∀ w1 : World, Calls Tryz.prog 165 #[.string ⟨#[48]⟩, .int .i64 (((8 - Lib.nDigits k : Nat) : Int))] w1 fun e w' => e = .returned (.string (bN (List.replicate (8 - Lib.nDigits k) 48))) ∧ w1.grownBy w' none) := fun w1 => w_zeros _ (by omega) w1
  have HE : Hid (bN (List.replicate (8 - Lib.nDigits k) 48) ++ bN (Lib.decDigits k) = bN (d8 k)) := by
    show _ = _
    rw [ba_app, bN_list, bN_list, d8_pad hk]
  clear hl
  go_enter Tryz.func138, Tryz.ntmps138
  go_wp2_with fail
  refine HI.mono ?_
  rintro e w1 ⟨rfl, hg1⟩
  have HG1 : Hid (w.grownBy w1 none) := hg1
  clear hg1 HI
  go_wp2_with fail
  rw [show max 0 (8 - (Lib.nDigits k : Int)) = ((8 - Lib.nDigits k : Nat) : Int) by omega]
  refine (HR.out w1).mono ?_
  rintro e w2 ⟨rfl, hg2⟩
  have HG2 : Hid (w.grownBy w2 none) := HG1.out.trans hg2
  have q1 : ¬ (9223372036854775807 : Nat) < (bN (List.replicate (8 - Lib.nDigits k) 48)).size + (bN (Lib.decDigits k)).size := by rw [bN_size, bN_size, List.length_replicate, Lib.decDigits_length]; omega
  clear hg2
  go_wp2
  go_ret
  exact ⟨ret_str HE.out, HG2.out⟩
/-- A log's struct. -/
def WalF (d : Nat) (dir cp : ByteArray) (v : Value) (op : Int) : Nat → Value
  | 0 => .pointer (some ⟨d, 0, none⟩)
  | 1 => .string dir
  | 2 => .string cp
  | 3 => v
  | _ => .int .i64 op
abbrev WRow (w : World) (p d : Nat) (dir cp : ByteArray) (v : Value) (op : Int) : Prop := w.rowIs p 143 5 (WalF d dir cp v op)
theorem WRow.cells {w : World} {p d : Nat} {dir cp : ByteArray} {v : Value} {op : Int} (h : WRow w p d dir cp v op) :
    w.cell? ⟨p, 0, none⟩ = some (.pointer (some ⟨d, 0, none⟩)) ∧ w.cell? ⟨p, 1, none⟩ = some (.string dir) ∧ w.cell? ⟨p, 2, none⟩ = some (.string cp) ∧ w.cell? ⟨p, 3, none⟩ = some v ∧ w.cell? ⟨p, 4, none⟩ = some (.int .i64 op) :=
  ⟨h.cell (i := 0) (by omega), h.cell (i := 1) (by omega), h.cell (i := 2) (by omega), h.cell (i := 3) (by omega), h.cell (i := 4) (by omega)⟩
theorem five {P : Nat → Prop} (h0 : P 0) (h1 : P 1) (h2 : P 2) (h3 : P 3) (h4 : P 4) : ∀ j, j < 5 → P j := by
  intro j hj
  match j, hj with
  | 0, _ => exact h0
  | 1, _ => exact h1
  | 2, _ => exact h2
  | 3, _ => exact h3
  | 4, _ => exact h4
theorem WRow.kept {w w' : World} {p d : Nat} {dir cp : ByteArray} {v : Value} {op : Int} {row : Option Nat} (h : WRow w p d dir cp v op) (hg : w.grownBy w' row) (hne : some p ≠ row) : WRow w' p d dir cp v op := h.of_block (hg.block p h.lt hne)
theorem w_draft (p d : Nat) (dir cp : ByteArray) (v : Value) (op : Int) (w : World) (hds : dir.size ≤ 64) (h : WRow w p d dir cp v op) : Calls Tryz.prog 150 #[.pointer (some ⟨p, 0, none⟩)] w fun e w' => e = .returned (.string (newN dir)) ∧ w = w' := by
  obtain ⟨c0, c1, c2, c3, c4⟩ := h.cells
  have q1 : ¬ (9223372036854775807 : Nat) < dir.size + 4 := by omega
  clear h
  go_enter Tryz.func150, Tryz.ntmps150
  go_wp2
  go_ret
  exact ⟨ret_str (ba_app _ _), rfl⟩
theorem w_done0 (w : World) : Calls Tryz.prog 103 #[.int .i64 0] w fun e w' => e = .returned (.tuple #[]) ∧ w = w' := by
  go_enter Tryz.func103, Tryz.ntmps103
  go_wp2
  go_end0
  exact ⟨rfl, rfl⟩
theorem seg_eq (dir : ByteArray) (k : Nat) : dir ++ ⟨#[47, 115]⟩ ++ bN (d8 k) = segN dir k := by
  rw [ba_app, ba_app, bN_list, bN_list, segN, List.append_assoc]
theorem cp_eq (dir : ByteArray) (k : Nat) : dir ++ ⟨#[47, 99]⟩ ++ bN (d8 k) = cpN dir k := by
  rw [ba_app, ba_app, bN_list, bN_list, cpN, List.append_assoc]
set_option maxHeartbeats 4000000 in
theorem w_segment (p d : Nat) (dir cp : ByteArray) (v : Value) (op : Int) (k : Nat) (hk : k < 100000000) (w : World) (hds : dir.size ≤ 64) (ht : Tab w) (h : WRow w p d dir cp v op) : Calls Tryz.prog 105 #[.pointer (some ⟨p, 0, none⟩), .int .i64 (k : Int)] w fun e w' => e = .returned (.string (segN dir k)) ∧ w.grownBy w' none := by
  obtain ⟨c0, c1, c2, c3, c4⟩ := h.cells
  have HGD : Hid (w.grownBy w.drew none) := gb_drew (World.grownBy.refl _ _)
  have HT : Hid (Tab w.drew) := ht.grown HGD.out
  have HR : Hid (WRow w p d dir cp v op) := h
  have q1 : ¬ (9223372036854775807 : Nat) < dir.size + 2 := by omega
  have q2 : ¬ (9223372036854775807 : Nat) < dir.size + 2 + (bN (d8 k)).size := by rw [bN_size, d8_len]; omega
  clear h c0 c2 c3 c4
  go_enter Tryz.func105, Tryz.ntmps105
  go_wp2_with fail
  go_region_with (first
    | (go_at_call 138; refine (w_eight k hk _ ?_).mono ?_; exact HT.out; rintro e w' ⟨rfl, hg⟩; have HG : Hid (w.grownBy w' none) := HGD.out.trans hg; have c1' := (HR.out.kept HG.out (by simp)).cells.2.1; clear hg)
    | fail)
  all_goals go_wp2
  all_goals go_ret
  all_goals exact ⟨ret_str (seg_eq dir k), HG.out⟩
set_option maxHeartbeats 4000000 in
theorem w_cpoint (p d : Nat) (dir cp : ByteArray) (v : Value) (op : Int) (k : Nat) (hk : k < 100000000) (w : World) (hds : dir.size ≤ 64) (ht : Tab w) (h : WRow w p d dir cp v op) : Calls Tryz.prog 139 #[.pointer (some ⟨p, 0, none⟩), .int .i64 (k : Int)] w fun e w' => e = .returned (.string (cpN dir k)) ∧ w.grownBy w' none := by
  obtain ⟨c0, c1, c2, c3, c4⟩ := h.cells
  have HGD : Hid (w.grownBy w.drew none) := gb_drew (World.grownBy.refl _ _)
  have HT : Hid (Tab w.drew) := ht.grown HGD.out
  have HR : Hid (WRow w p d dir cp v op) := h
  have q1 : ¬ (9223372036854775807 : Nat) < dir.size + 2 := by omega
  have q2 : ¬ (9223372036854775807 : Nat) < dir.size + 2 + (bN (d8 k)).size := by rw [bN_size, d8_len]; omega
  clear h c0 c2 c3 c4
  go_enter Tryz.func139, Tryz.ntmps139
  go_wp2_with fail
  go_region_with (first
    | (go_at_call 138; refine (w_eight k hk _ ?_).mono ?_; exact HT.out; rintro e w' ⟨rfl, hg⟩; have HG : Hid (w.grownBy w' none) := HGD.out.trans hg; have c1' := (HR.out.kept HG.out (by simp)).cells.2.1; clear hg)
    | fail)
  all_goals go_wp2
  all_goals go_ret
  all_goals exact ⟨ret_str (cp_eq dir k), HG.out⟩
theorem w_parse (t : ByteArray) (k : Nat) (ht : t.data.toList = d8 k) (hk : k < 100000000) (w : World) : Calls Tryz.prog 187 #[.string t, .int .i64 10, .int .i64 32] w fun e w' => e = .returned (.tuple #[.int .u64 (k : Int), .nilIface]) ∧ w.grownBy w' none := by
  have hts : t.size = 8 := by
    have : t.data.toList.length = t.size := Array.length_toList
    rw [ht, d8_len] at this
    omega
  have HI := Tryz.internal_strconv_ParseUint_10_b32 t (by omega) (by omega) w
  rw [ht, d8_parse hk] at HI
  have HG : Hid (w.grownBy (Lib.bytesWorld w 5 t) none) := by
    show w.grownBy _ none
    exact ⟨rfl, rfl, rfl, by rw [Go.Lib.bytesWorld_size]; omega, fun k hk _ => Go.Lib.bytesWorld_at_old w 5 t k hk⟩
  clear ht
  go_enter Tryz.func187, Tryz.ntmps187
  go_wp2_with fail
  refine HI.mono ?_
  rintro e w1 ⟨rfl, rfl⟩
  rw [show Lib.uintTupleM 230 4294967295 (Lib.NumEnd.ok k) = .tuple #[.int .u64 (k : Int), .nilIface] from rfl]
  go_wp2
  go_ret2
  exact ⟨rfl, HG.out⟩
end Go.Proofs.YtgpgkpciajajcaaGreatDoor

/- The world of a row: what the listed variables give; a world in which they lie. -/
namespace Go.Proofs.YtgpgkpciajajcaaGreatDoor
open Go.ChangeShapes Go.WideShapes Go.ChangeAt Go.RowKit
set_option linter.unusedVariables false

theorem laid_tail {P : Program} {W : World} {x : String × DataW Unit} {rest : List (String × DataW Unit)} (h : laidMet P (x :: rest) W) : laidMet P rest W := by
  obtain ⟨ps, ⟨g, t, cs, fuel, p, q, h1, h2, h3, h4, h5, rfl⟩, hn, hb⟩ := h
  exact ⟨q, h5, (List.nodup_append.1 hn).2.1, fun b off hm => hb b off (List.mem_append_right _ hm)⟩
abbrev laidL : List (String × DataW Unit) := [("math/bits.deBruijn32tab", Rows.laid_math_bits_deBruijn32tab), ("math/bits.deBruijn64tab", Rows.laid_math_bits_deBruijn64tab), ("internal/strconv.uint64pow10", Rows.laid_internal_strconv_uint64pow10), ("strconv.ErrRange", Rows.laid_strconv_ErrRange), ("strconv.ErrSyntax", Rows.laid_strconv_ErrSyntax)]
theorem gPow : Tryz.prog.globalNamed "internal/strconv.uint64pow10" = some 0 := by kernel_rfl
theorem gPowT : (Tryz.prog.globals[0]?).map (·.type) = some 238 := by kernel_rfl
theorem cells214 : Tryz.prog.cellsOf 238 = 20 := by kernel_rfl
theorem cells63 : Tryz.prog.cellsOf 27 = 1 := by kernel_rfl
theorem tab_of {W : World} (h : laidMetH Tryz.prog laidL W) : Tab W := by
  have h' : laidMet Tryz.prog laidL W := h
  exact Lib.tabIs_of_head gPow gPowT Tryz.underlying238 Tryz.underlying27 cells63 cells214 (laid_tail (laid_tail h'))
def litV {H : Type} : DataW H → Value
  | .lit (.int k n) => .int k n
  | _ => undef
def cellsV {H : Type} : DataW H → Array Value
  | .agg l => (l.map litV).toArray
  | x => #[litV x]
def laidInto (c : Array Value) : Obj → Obj
  | .cells _ t frozen => .cells c t frozen
  | o => o
/-- A world in which the listed variables lie. -/
noncomputable def laidWorld (os : Os) : World :=
  let N := (World.settled Tryz.prog os).heap.size
  let w0 := World.holding Tryz.prog os ⟨#[.cells #[.string ⟨#[105, 110, 118, 97, 108, 105, 100, 32, 115, 121, 110, 116, 97, 120]⟩] 246, .cells #[.string ⟨#[118, 97, 108, 117, 101, 32, 111, 117, 116, 32, 111, 102, 32, 114, 97, 110, 103, 101]⟩] 246], #[], []⟩
  let h0 := w0.heap.modify 2 (laidInto #[.iface 244 (.pointer (some ⟨N, 0, none⟩))])
  let h1 := h0.modify 3 (laidInto #[.iface 244 (.pointer (some ⟨N + 1, 0, none⟩))])
  let h2 := h1.modify 0 (laidInto (cellsV (H := Unit) Rows.laid_internal_strconv_uint64pow10))
  let h3 := h2.modify 4 (laidInto (cellsV (H := Unit) Rows.laid_math_bits_deBruijn32tab))
  let h4 := h3.modify 5 (laidInto (cellsV (H := Unit) Rows.laid_math_bits_deBruijn64tab))
  { w0 with heap := h4 }
set_option maxRecDepth 100000 in
theorem laid_met (os : Os) (args : Array Value) : laidMet Tryz.prog laidL ((laidWorld os).forCall (fun _ _ => 0) ⟨#[], args, []⟩).memory :=
  laidMet_of_run' 8 (by kernel_rfl) (by kernel_rfl)
end Go.Proofs.YtgpgkpciajajcaaGreatDoor

/- Package wal: whether a text is a folder's name; the number of a file; is there a file for the open segment? -/
namespace Go.Proofs.YtgpgkpciajajcaaGreatDoor
open Go.RowKit Go.Maps Go.Sort
set_option linter.unusedVariables false
set_option maxRecDepth 20000

def intE : Elem Int where
  cells z := [.int .i64 z]
  size := 1
  pos := by decide
  len _ := rfl
  one z v h := by
    simp only [List.mem_cons, List.mem_nil_iff, or_false] at h
    subst h
    rfl
theorem info3 : (Tryz.prog.info? 3).map (fun i => (i.zero, i.size, i.bytes)) = some (some (.int .i64 0), 1, 8) := by kernel_rfl
theorem intET : ElemOf intE Tryz.prog 44 3 8 := by
  obtain ⟨i0, hi, hz0, hz1, hz2⟩ := info_parts info3
  exact ⟨Tryz.underlying44, i0, _, hi, hz0, hz1, hz2, rfl⟩
def nI (l : List Nat) : List Int := l.map Int.ofNat
theorem nI_len (l : List Nat) : (nI l).length = l.length := by simp [nI]
theorem nI_get {l : List Nat} {i k : Nat} (h : l[i]? = some k) : (nI l)[i]? = some (k : Int) := by simp [nI, h]
theorem nI_app (l r : List Nat) : nI (l ++ r) = nI l ++ nI r := by simp [nI]
theorem w_numNo (s p : ByteArray) (h : Lib.hasPrefix s.data.toList p.data.toList = false) (w : World) : Calls Tryz.prog 170 #[.string s, .string p] w fun e w' => e = .returned (.tuple #[.int .i64 0, .bool false]) ∧ w = w' := by
  have HC := Tryz.strings_CutPrefix s p w
  rw [h] at HC
  clear h
  go_enter Tryz.func170, Tryz.ntmps170
  go_wp2_with fail
  refine HC.mono ?_
  rintro e w1 ⟨rfl, rfl⟩
  go_wp2
  go_ret2
  exact ⟨rfl, rfl⟩
set_option maxHeartbeats 2000000 in
theorem w_numYes (s p : ByteArray) (k : Nat) (hk : k < 100000000) (h : s.data.toList = p.data.toList ++ d8 k) (w : World) : Calls Tryz.prog 170 #[.string s, .string p] w fun e w' => e = .returned (.tuple #[.int .i64 (k : Int), .bool true]) ∧ w.grownBy w' none := by
  have HC := Tryz.strings_CutPrefix s p w
  have hp : Lib.hasPrefix s.data.toList p.data.toList = true := by rw [h]; exact has_app _ _
  have ht : Lib.trimPrefix s.data.toList p.data.toList = d8 k := by
    unfold Lib.trimPrefix
    rw [if_pos hp, h]
    simp
  rw [hp, ht] at HC
  have HP : Hid (Calls Tryz.prog 187 #[.string ⟨(d8 k).toArray⟩, .int .i64 10, .int .i64 32] w fun e w' => e = .returned (.tuple #[.int .u64 (k : Int), .nilIface]) ∧ w.grownBy w' none) := w_parse ⟨(d8 k).toArray⟩ k rfl hk w
  have q8 : (ByteArray.size ⟨(d8 k).toArray⟩) = 8 := by show (d8 k).toArray.size = 8; simp [d8_len]
  have qw : IntKind.i64.wrap (k : Int) = (k : Int) := by simp [IntKind.wrap, IntKind.bits, IntKind.signed]; omega
  clear h hp ht
  go_enter Tryz.func170, Tryz.ntmps170
  go_wp2_with fail
  refine HC.mono ?_
  rintro e w1 ⟨rfl, rfl⟩
  go_wp2_with fail
  refine HP.out.mono ?_
  rintro e w2 ⟨rfl, hg2⟩
  have HG2 : Hid (w1.grownBy w2 none) := hg2
  clear hg2
  go_wp2
  go_region
  all_goals go_wp2
  all_goals go_ret2
  all_goals exact ⟨rfl, gb_drewR HG2.out _⟩
set_option maxHeartbeats 1000000 in
theorem w_isFolder (s : ByteArray) (hs : (s.size : Int) ≤ 9223372036854775807) (w : World) : Calls Tryz.prog 119 #[.string s] w fun e w' => e = .returned (.bool (dirB s)) ∧ w.grownBy w' none := by
  have HN := d_isName s hs w
  go_enter Tryz.func119, Tryz.ntmps119
  cases hn : nameB s with
  | true =>
    rw [hn] at HN
    have HE : Hid (dirB s = decide ((s.size : Int) ≤ 32)) := by show dirB s = _; unfold dirB; rw [hn]; simp; omega
    go_wp2_with fail
    refine HN.mono ?_
    rintro e w1 ⟨rfl, rfl⟩
    go_wp2
    go_ret
    exact ⟨ret_bool HE.out.symm, World.grownBy.refl _ _⟩
  | false =>
    rw [hn] at HN
    have HE : Hid (dirB s = false) := by show dirB s = _; unfold dirB; rw [hn]; rfl
    go_wp2_with fail
    refine HN.mono ?_
    rintro e w1 ⟨rfl, rfl⟩
    go_wp2
    go_ret
    exact ⟨ret_bool HE.out.symm, World.grownBy.refl _ _⟩
theorem nI_cell {w : World} {a : Option Addr} {l : List Nat} (h : SRd intE w a (nI l)) {i k : Nat} (hi : l[i]? = some k) : ∃ b off, a = some ⟨b, off, none⟩ ∧ w.cell? ⟨b, off + i, none⟩ = some (.int .i64 (k : Int)) := by
  have hl : 0 < (nI l).length := by rw [nI_len]; have := (List.getElem?_eq_some_iff.1 hi).1; omega
  obtain ⟨b, off, e, hc⟩ := h.at hl
  refine ⟨b, off, e, ?_⟩
  have := hc i (k : Int) 0 (.int .i64 (k : Int)) (nI_get hi) rfl
  rw [show i * intE.size + 0 = i from Nat.mul_one i] at this
  exact this
def isOpen (segs : List Nat) (op : Nat) : Bool := decide (segs.getLast? = some op)
set_option maxHeartbeats 2000000 in
theorem w_hasFile (p d : Nat) (dir cp : ByteArray) (a : Option Addr) (c : Nat) (segs : List Nat) (op : Nat) (w : World) (h : WRow w p d dir cp (.slice a segs.length c) (op : Int)) (hr : SRd intE w a (nI segs)) (hn : (segs.length : Int) ≤ 4611686018427387904) :
    Calls Tryz.prog 101 #[.pointer (some ⟨p, 0, none⟩)] w fun e w' => e = .returned (.bool (isOpen segs op)) ∧ ∃ k, w' = w.drewN k := by
  obtain ⟨c0, c1, c2, c3, c4⟩ := h.cells
  clear h c0 c1 c2
  rcases Nat.eq_zero_or_pos segs.length with h0 | h0
  · have hs : segs = [] := List.eq_nil_of_length_eq_zero h0
    have HE : Hid (isOpen segs op = false) := by show isOpen segs op = _; rw [hs]; simp [isOpen]
    rw [h0] at c3
    have hd : decide ((0 : Int) ≤ -1) = false := by decide
    clear hr hn h0 hs
    go_enter Tryz.func101, Tryz.ntmps101
    go_wp2
    go_quiet (fail)
    go_wp2
    go_ret
    exact ⟨ret_bool HE.out.symm, _, rfl⟩
  · obtain ⟨k, hk⟩ : ∃ k, segs[segs.length - 1]? = some k := ⟨_, List.getElem?_eq_getElem (by omega)⟩
    obtain ⟨b, off, rfl, hc⟩ := nI_cell hr hk
    have HE : Hid (isOpen segs op = decide ((k : Int) = (op : Int))) := by
      show isOpen segs op = _
      unfold isOpen
      rw [List.getLast?_eq_getElem?, hk]
      simp [Int.ofNat_inj]
    obtain ⟨L, eL⟩ : ∃ L, segs.length = L + 1 := ⟨segs.length - 1, by omega⟩
    rw [eL] at c3 hn
    rw [eL, show L + 1 - 1 = L from rfl] at hc
    have q1 : decide ((0 : Int) ≤ (L : Int)) = true := by simp
    have q2 : (L : Int) < (L : Int) + 1 := by omega
    have q3 : (0 : Int) ≤ (L : Int) := by omega
    clear hr hk h0
    go_enter Tryz.func101, Tryz.ntmps101
    go_wp2
    go_quiet (fail)
    go_wp2
    go_ret
    exact ⟨ret_bool HE.out.symm, _, rfl⟩
end Go.Proofs.YtgpgkpciajajcaaGreatDoor

