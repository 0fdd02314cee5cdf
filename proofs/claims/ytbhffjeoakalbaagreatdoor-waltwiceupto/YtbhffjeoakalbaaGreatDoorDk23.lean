/- Package disk as a value: Off, On, Arm, Read, List. -/
import Derived.Test.YtbhffjeoakalbaaGreatDoorDk22
namespace Go.Proofs.YtbhffjeoakalbaaGreatDoor
open Go.RowKit Go.Maps
set_option linter.unusedVariables false
set_option maxRecDepth 20000

theorem d_offOff (d mb : Nat) (set : Bool) (ah kp wn keep : Int) (w : World) (h : DRow w d mb true set ah kp wn) :
    Calls Tryz.prog 20 #[.pointer (some ⟨d, 0, none⟩), .int .i64 keep] w fun e w' => e = .returned (.tuple #[]) ∧ DRow w' d mb true false 0 0 wn ∧ w.grownBy w' (some d) := by
  obtain ⟨c0, c1, c2, c3, c4, c5⟩ := h.cells
  have H : Hid (DRow w d mb true set ah kp wn) := h
  clear h c0 c2 c3 c4 c5
  go_enter Tryz.func20, Tryz.ntmps20
  go_wp2_with fail
  refine (d_disarm d mb true set ah kp wn w H.out).mono ?_
  rintro e w2 ⟨rfl, hr2, hg2⟩
  have HR2 : Hid (DRow w2 d mb true false 0 0 wn ∧ w.grownBy w2 (some d)) := ⟨hr2, hg2⟩
  clear hr2 hg2
  go_wp2
  go_end0
  exact ⟨rfl, HR2.out.1, HR2.out.2⟩
theorem d_armNot (d mb : Nat) (off set : Bool) (ah kp wn ah' kp' : Int) (w : World) (h : DRow w d mb off set ah kp wn) (h0 : ah' < 0) :
    Calls Tryz.prog 14 #[.pointer (some ⟨d, 0, none⟩), .int .i64 ah', .int .i64 kp'] w fun e w' => e = .returned (.tuple #[]) ∧ DRow w' d mb off false 0 0 wn ∧ w.grownBy w' (some d) := by
  have H : Hid (DRow w d mb off set ah kp wn) := h
  have q0 : decide (ah' < 0) = true := by simpa using h0
  clear h
  go_enter Tryz.func14, Tryz.ntmps14
  go_wp2_with fail
  refine (d_disarm d mb off set ah kp wn w H.out).mono ?_
  rintro e w2 ⟨rfl, hr2, hg2⟩
  have HR2 : Hid (DRow w2 d mb off false 0 0 wn ∧ w.grownBy w2 (some d)) := ⟨hr2, hg2⟩
  clear hr2 hg2
  go_wp2
  refine bodyPost_ret (results_none rfl _ _ _) rfl ?_
  exact ⟨rfl, HR2.out.1, HR2.out.2⟩
def DSt.arm (x : DSt) (ah kp : Int) : DSt := if ah < 0 then { x with set := false, ah := 0, kp := 0 } else { x with set := true, ah := ah, kp := kp }
/-- A call without a result leaves the disk at that value. -/
def Leaves0 (w : World) (base d mb n : Nat) (x : DSt) (B : Nat → Prop) (e : Ending) (w' : World) : Prop := e = .returned (.tuple #[]) ∧ DS w' base d mb n x B ∧ Step w w' B B
theorem x_off (base d mb n : Nat) (x : DSt) (B : Nat → Prop) (keep : Int) (w : World) (h : DS w base d mb n x B) (hk : -9223372036854775808 ≤ keep ∧ keep ≤ 9223372036854775807) :
    Calls Tryz.prog 20 #[.pointer (some ⟨d, 0, none⟩), .int .i64 keep] w (Leaves0 w base d mb n (x.power keep) B) := by
  obtain ⟨off, set, ah, kp, wn, V⟩ := x
  unfold DSt.power
  cases off with
  | true =>
    refine (d_offOff d mb set ah kp wn keep w (DV.row h)).mono ?_
    rintro e w' ⟨rfl, hr, hg⟩
    exact ⟨rfl, DV.rowed h hr (Kept.of hg (fun k hk => by cases hk; rfl))⟩
  | false =>
    refine (v_off base d mb n set ah kp wn keep V B w h hk).mono ?_
    rintro e w' ⟨rfl, h1, h2⟩
    exact ⟨rfl, h1, h2⟩
theorem x_on (base d mb n : Nat) (x : DSt) (B : Nat → Prop) (w : World) (h : DS w base d mb n x B) :
    Calls Tryz.prog 21 #[.pointer (some ⟨d, 0, none⟩)] w (Leaves0 w base d mb n { x with off := false } B) := by
  refine (v_on base d mb n x.off x.set x.ah x.kp x.wn x.V B w h).mono ?_
  rintro e w' ⟨rfl, h1, h2⟩
  exact ⟨rfl, h1, h2⟩
theorem x_arm (base d mb n : Nat) (x : DSt) (B : Nat → Prop) (ah kp : Int) (w : World) (h : DS w base d mb n x B) :
    Calls Tryz.prog 14 #[.pointer (some ⟨d, 0, none⟩), .int .i64 ah, .int .i64 kp] w (Leaves0 w base d mb n (x.arm ah kp) B) := by
  unfold DSt.arm
  by_cases h0 : ah < 0
  · rw [if_pos h0]
    refine (d_armNot d mb x.off x.set x.ah x.kp x.wn ah kp w (DV.row h) h0).mono ?_
    rintro e w' ⟨rfl, hr, hg⟩
    exact ⟨rfl, DV.rowed h hr (Kept.of hg (fun k hk => by cases hk; rfl))⟩
  · rw [if_neg h0]
    refine (v_arm base d mb n x.off x.set x.ah x.kp x.wn ah kp x.V B w h (by omega)).mono ?_
    rintro e w' ⟨rfl, h1, h2⟩
    exact ⟨rfl, h1, h2⟩
/-- What Read answers: bytes and an error. -/
def DSt.read (x : DSt) (s : ByteArray) : List Int × Int := if x.off = true then ([], 60) else match x.V s with
  | none => ([], 62)
  | some p => (p.1, 0)
theorem x_read (base d mb n : Nat) (x : DSt) (B : Nat → Prop) (s : ByteArray) (w : World) (h : DS w base d mb n x B) (hnm : nameB s = true) :
    Calls Tryz.prog 78 #[.pointer (some ⟨d, 0, none⟩), .string s] w fun e w' => ∃ a c, e = .returned (.tuple #[.slice a (x.read s).1.length c, .int .i64 (x.read s).2]) ∧ SOwn byteE 5 w' w.heap.size (.slice a (x.read s).1.length c) (x.read s).1.length (x.read s).1 ∧ (∀ z ∈ (x.read s).1, 0 ≤ z ∧ z ≤ 255) ∧ (x.read s).1.length ≤ 4194304 ∧ w.grownBy w' none := by
  obtain ⟨off, set, ah, kp, wn, V⟩ := x
  unfold DSt.read
  cases off with
  | true =>
    refine (v_readNot base d mb n true set ah kp wn V B s 60 w h hnm (.inl ⟨rfl, rfl⟩)).mono ?_
    rintro e w' ⟨rfl, hg⟩
    exact ⟨none, 0, rfl, SOwn.nil 5 _ _, by simp, by simp, hg⟩
  | false =>
    rw [if_neg (by simp)]
    dsimp only
    cases hV : V s with
    | none =>
      refine (v_readNot base d mb n false set ah kp wn V B s 62 w h hnm (.inr ⟨rfl, hV, rfl⟩)).mono ?_
      rintro e w' ⟨rfl, hg⟩
      exact ⟨none, 0, rfl, SOwn.nil 5 _ _, by simp, by simp, hg⟩
    | some p =>
      obtain ⟨Z, Y⟩ := p
      exact v_read base d mb n set ah kp wn V B s Z Y w h hnm hV
/-- The names of a disk that begin so, in order. -/
def NamesOf (V : Cont) (p : ByteArray) (l : List ByteArray) : Prop := l.Nodup ∧ (l.Pairwise fun x y => x.data.toList ≤ y.data.toList) ∧ ∀ s, s ∈ l ↔ (V s).isSome = true ∧ Lib.hasPrefix s.data.toList p.data.toList = true
theorem NamesOf.uniq {V : Cont} {p : ByteArray} {l l' : List ByteArray} (h : NamesOf V p l) (h' : NamesOf V p l') : l = l' := by
  rw [← srt_self h.2.1, ← srt_self h'.2.1]
  exact srt_eq h.1 h'.1 (fun s => (h.2.2 s).trans (h'.2.2 s).symm)
theorem x_list (base d mb n : Nat) (x : DSt) (B : Nat → Prop) (p : ByteArray) (w : World) (h : DS w base d mb n x B) (hon : x.off = false) (hn : n ≤ 4194304) :
    Calls Tryz.prog 26 #[.pointer (some ⟨d, 0, none⟩), .string p] w fun e w' => ∃ a c l, e = .returned (.slice a l.length c) ∧ SOwn strE 9 w' w.heap.size (.slice a l.length c) l.length l ∧ w.grownBy w' none ∧ NamesOf x.V p l ∧ l.length ≤ n := by
  obtain ⟨off, set, ah, kp, wn, V⟩ := x
  obtain rfl : off = false := hon
  refine (v_list base d mb n set ah kp wn V B p w h hn).mono ?_
  rintro e w' ⟨a, c, l, rfl, h1, h2, h3, h4, h5⟩
  refine ⟨a, c, srt l, by rw [srt_len], by rw [srt_len]; exact h1, h2, ⟨srt_nodup h3, srt_pair l, fun s => (srt_mem l s).trans (h5 s)⟩, by rw [srt_len]; exact h4⟩
end Go.Proofs.YtbhffjeoakalbaaGreatDoor
