/- Package wal: whether a text is a folder's name; the number of a file; is there a file for the open segment? -/
import Derived.Test.YtekejnjaiccnbaaGreatDoorWs
namespace Go.Proofs.YtekejnjaiccnbaaGreatDoor
open Go.RowKit Go.Maps Go.Sort
set_option linter.unusedVariables false
set_option maxRecDepth 20000

def intE : Elem Int where
  cells z := [.int .i64 z]
  size := 1
  pos := by decide
  len _ := rfl
  one z v h := by
    simp only [List.mem_cons, List.mem_nil_iff, or_false] at h
    subst h
    rfl
theorem intE_flat (zs : List Int) : intE.flat zs = zs.map (Value.int .i64) := by
  unfold Elem.flat
  induction zs with
  | nil => rfl
  | cons z r ih => rw [List.flatMap_cons, ih]; rfl
theorem info3 : (Tryz.prog.info? 3).map (fun i => (i.zero, i.size, i.bytes)) = some (some (.int .i64 0), 1, 8) := by kernel_rfl
theorem intET : ElemOf intE Tryz.prog 75 3 8 := by
  obtain ⟨i0, hi, hz0, hz1, hz2⟩ := info_parts info3
  exact ⟨Tryz.underlying75, i0, _, hi, hz0, hz1, hz2, rfl⟩
def nI (l : List Nat) : List Int := l.map Int.ofNat
theorem nI_len (l : List Nat) : (nI l).length = l.length := by simp [nI]
theorem nI_get {l : List Nat} {i k : Nat} (h : l[i]? = some k) : (nI l)[i]? = some (k : Int) := by simp [nI, h]
theorem nI_app (l r : List Nat) : nI (l ++ r) = nI l ++ nI r := by simp [nI]
theorem w_numNo (s p : ByteArray) (h : Lib.hasPrefix s.data.toList p.data.toList = false) (w : World) : Calls Tryz.prog 119 #[.string s, .string p] w fun e w' => e = .returned (.tuple #[.int .i64 0, .bool false]) ∧ w = w' := by
  have HC := Tryz.strings_CutPrefix s p w
  rw [h] at HC
  clear h
  go_enter Tryz.func119, Tryz.ntmps119
  go_wp2_with fail
  refine HC.mono ?_
  rintro e w1 ⟨rfl, rfl⟩
  go_wp2
  go_ret2
  exact ⟨rfl, rfl⟩
set_option maxHeartbeats 2000000 in
theorem w_numYes (s p : ByteArray) (k : Nat) (hk : k < 100000000) (h : s.data.toList = p.data.toList ++ d8 k) (w : World) : Calls Tryz.prog 119 #[.string s, .string p] w fun e w' => e = .returned (.tuple #[.int .i64 (k : Int), .bool true]) ∧ w.grownBy w' none := by
  have HC := Tryz.strings_CutPrefix s p w
  have hp : Lib.hasPrefix s.data.toList p.data.toList = true := by rw [h]; exact has_app _ _
  have ht : Lib.trimPrefix s.data.toList p.data.toList = d8 k := by
    unfold Lib.trimPrefix
    rw [if_pos hp, h]
    simp
  rw [hp, ht] at HC
  have HP : Hid (Calls Tryz.prog 142 #[.string ⟨(d8 k).toArray⟩, .int .i64 10, .int .i64 32] w fun e w' => e = .returned (.tuple #[.int .u64 (k : Int), .nilIface]) ∧ w.grownBy w' none) := w_parse ⟨(d8 k).toArray⟩ k rfl hk w
  have q8 : (ByteArray.size ⟨(d8 k).toArray⟩) = 8 := by show (d8 k).toArray.size = 8; simp [d8_len]
  have qw : IntKind.i64.wrap (k : Int) = (k : Int) := by simp [IntKind.wrap, IntKind.bits, IntKind.signed]; omega
  clear h hp ht
  go_enter Tryz.func119, Tryz.ntmps119
  go_wp2_with fail
  refine HC.mono ?_
  rintro e w1 ⟨rfl, rfl⟩
  go_wp2_with fail
  refine HP.out.mono ?_
  rintro e w2 ⟨rfl, hg2⟩
  have HG2 : Hid (w1.grownBy w2 none) := hg2
  clear hg2
  go_wp2
  go_region
  all_goals go_wp2
  all_goals go_ret2
  all_goals exact ⟨rfl, gb_drewR HG2.out _⟩
theorem w_readBad (d mb n : Nat) (F : ByteArray → Option Nat) (s : ByteArray) (c : Int) (w : World) (hr : DRow w d mb false false 0 0 0) (hm : MapIs w mb n F) (hF : F s = none) (hs : (s.size : Int) ≤ 9223372036854775807) (hc : c = if nameB s = true then 62 else 61) :
    Calls Tryz.prog 78 #[.pointer (some ⟨d, 0, none⟩), .string s] w fun e w' => e = .returned (.tuple #[.slice none 0 0, .int .i64 c]) ∧ w.grownBy w' none := by
  have HF : Hid (Calls Tryz.prog 95 #[.pointer (some ⟨d, 0, none⟩), .string s] w fun e w' => e = .returned (.tuple #[.pointer none, .int .i64 c]) ∧ w.grownBy w' none) := by
    have := d_find d mb n false false 0 0 0 F s w hr hm hs
    subst hc
    cases hn : nameB s with
    | true =>
      rw [show findP false F s = none by simp [findP, hF], show findC false F s = 62 by simp [findC, hn, hF]] at this
      exact this
    | false =>
      rw [show findP false F s = none by simp [findP, hn], show findC false F s = 61 by simp [findC, hn]] at this
      exact this
  have q0 : (c != 0) = true := by subst hc; split <;> rfl
  clear hr hm hF hc
  go_enter Tryz.func78, Tryz.ntmps78
  go_wp2_with fail
  refine HF.out.mono ?_
  rintro e w1 ⟨rfl, hg1⟩
  have HG1 : Hid (w.grownBy w1 none) := hg1
  clear hg1
  go_wp2
  go_ret2
  exact ⟨rfl, HG1.out⟩
set_option maxHeartbeats 1000000 in
theorem w_isFolder (s : ByteArray) (hs : (s.size : Int) ≤ 9223372036854775807) (w : World) : Calls Tryz.prog 42 #[.string s] w fun e w' => e = .returned (.bool (dirB s)) ∧ w.grownBy w' none := by
  have HN := d_isName s hs w
  go_enter Tryz.func42, Tryz.ntmps42
  cases hn : nameB s with
  | true =>
    rw [hn] at HN
    have HE : Hid (dirB s = decide ((s.size : Int) ≤ 32)) := by show dirB s = _; unfold dirB; rw [hn]; simp; omega
    go_wp2_with fail
    refine HN.mono ?_
    rintro e w1 ⟨rfl, rfl⟩
    go_wp2
    go_ret
    exact ⟨ret_bool HE.out.symm, World.grownBy.refl _ _⟩
  | false =>
    rw [hn] at HN
    have HE : Hid (dirB s = false) := by show dirB s = _; unfold dirB; rw [hn]; rfl
    go_wp2_with fail
    refine HN.mono ?_
    rintro e w1 ⟨rfl, rfl⟩
    go_wp2
    go_ret
    exact ⟨ret_bool HE.out.symm, World.grownBy.refl _ _⟩
theorem nI_cell {w : World} {a : Option Addr} {l : List Nat} (h : SRd intE w a (nI l)) {i k : Nat} (hi : l[i]? = some k) : ∃ b off, a = some ⟨b, off, none⟩ ∧ w.cell? ⟨b, off + i, none⟩ = some (.int .i64 (k : Int)) := by
  have hl : 0 < (nI l).length := by rw [nI_len]; have := (List.getElem?_eq_some_iff.1 hi).1; omega
  obtain ⟨b, off, e, hc⟩ := h.at hl
  refine ⟨b, off, e, ?_⟩
  have := hc i (k : Int) 0 (.int .i64 (k : Int)) (nI_get hi) rfl
  rw [show i * intE.size + 0 = i from Nat.mul_one i] at this
  exact this
def isOpen (segs : List Nat) (op : Nat) : Bool := decide (segs.getLast? = some op)
set_option maxHeartbeats 2000000 in
theorem w_hasFile (p d : Nat) (dir cp : ByteArray) (a : Option Addr) (c : Nat) (segs : List Nat) (op : Nat) (w : World) (h : WRow w p d dir cp (.slice a segs.length c) (op : Int)) (hr : SRd intE w a (nI segs)) (hn : (segs.length : Int) ≤ 4611686018427387904) :
    Calls Tryz.prog 50 #[.pointer (some ⟨p, 0, none⟩)] w fun e w' => e = .returned (.bool (isOpen segs op)) ∧ ∃ k, w' = w.drewN k := by
  obtain ⟨c0, c1, c2, c3, c4⟩ := h.cells
  clear h c0 c1 c2
  rcases Nat.eq_zero_or_pos segs.length with h0 | h0
  · have hs : segs = [] := List.eq_nil_of_length_eq_zero h0
    have HE : Hid (isOpen segs op = false) := by show isOpen segs op = _; rw [hs]; simp [isOpen]
    rw [h0] at c3
    have hd : decide ((0 : Int) ≤ -1) = false := by decide
    clear hr hn h0 hs
    go_enter Tryz.func50, Tryz.ntmps50
    go_wp2
    go_quiet (fail)
    go_wp2
    go_ret
    exact ⟨ret_bool HE.out.symm, _, rfl⟩
  · obtain ⟨k, hk⟩ : ∃ k, segs[segs.length - 1]? = some k := ⟨_, List.getElem?_eq_getElem (by omega)⟩
    obtain ⟨b, off, rfl, hc⟩ := nI_cell hr hk
    have HE : Hid (isOpen segs op = decide ((k : Int) = (op : Int))) := by
      show isOpen segs op = _
      unfold isOpen
      rw [List.getLast?_eq_getElem?, hk]
      simp [Int.ofNat_inj]
    obtain ⟨L, eL⟩ : ∃ L, segs.length = L + 1 := ⟨segs.length - 1, by omega⟩
    rw [eL] at c3 hn
    rw [eL, show L + 1 - 1 = L from rfl] at hc
    have q1 : decide ((0 : Int) ≤ (L : Int)) = true := by simp
    have q2 : (L : Int) < (L : Int) + 1 := by omega
    have q3 : (0 : Int) ≤ (L : Int) := by omega
    clear hr hk h0
    go_enter Tryz.func50, Tryz.ntmps50
    go_wp2
    go_quiet (fail)
    go_wp2
    go_ret
    exact ⟨ret_bool HE.out.symm, _, rfl⟩
end Go.Proofs.YtekejnjaiccnbaaGreatDoor
