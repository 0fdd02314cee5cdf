/- Package disk: what is refused; the disk as a value of its own, call by call. -/
import Derived.Test.YtbhffjeoakalbaaGreatDoorDk20
import Derived.Test.YtbhffjeoakalbaaGreatDoorDk21
namespace Go.Proofs.YtbhffjeoakalbaaGreatDoor
open Go.RowKit Go.Maps
set_option linter.unusedVariables false
set_option maxRecDepth 20000

/-- Why a file isn't come to: the disk is off, or there is none. -/
def NotThere (off : Bool) (V : Cont) (s : ByteArray) (c : Int) : Prop := (off = true ∧ c = 60) ∨ (off = false ∧ V s = none ∧ c = 62)
theorem findNot (base d mb n : Nat) (off set : Bool) (ah kp wn : Int) (V : Cont) (B : Nat → Prop) (s : ByteArray) (c : Int) (w : World) (h : DV w base d mb n off set ah kp wn V B) (hnm : nameB s = true) (hc : NotThere off V s c) :
    Calls Tryz.prog 94 #[.pointer (some ⟨d, 0, none⟩), .string s] w fun e w' => e = .returned (.tuple #[.pointer none, .int .i64 c]) ∧ w.grownBy w' none := by
  obtain ⟨F, G, hd, hv, hB⟩ := h
  have hss := nameB_size hnm
  have := d_find d mb n off set ah kp wn F s w hd.row hd.map (by omega)
  rcases hc with ⟨rfl, rfl⟩ | ⟨rfl, hV, rfl⟩
  · exact this
  · have hF : F s = none := by
      rw [hv s] at hV
      cases hF : F s with
      | none => rfl
      | some b => rw [hF] at hV; cases hV
    rw [show findP false F s = none by simp [findP, hF], show findC false F s = 62 by simp [findC, hnm, hF]] at this
    exact this
theorem NotThere.ne {off : Bool} {V : Cont} {s : ByteArray} {c : Int} (hc : NotThere off V s c) : (c != 0) = true := by
  rcases hc with ⟨_, rfl⟩ | ⟨_, _, rfl⟩ <;> rfl
set_option maxHeartbeats 2000000 in
theorem v_syncNot (base d mb n : Nat) (off set : Bool) (ah kp wn : Int) (V : Cont) (B : Nat → Prop) (s : ByteArray) (c : Int) (w : World) (h : DV w base d mb n off set ah kp wn V B) (hnm : nameB s = true) (hc : NotThere off V s c) :
    Calls Tryz.prog 53 #[.pointer (some ⟨d, 0, none⟩), .string s] w fun e w' => e = .returned (.int .i64 c) ∧ w.grownBy w' none := by
  have HF : Hid (Calls Tryz.prog 94 #[.pointer (some ⟨d, 0, none⟩), .string s] w fun e w' => e = .returned (.tuple #[.pointer none, .int .i64 c]) ∧ w.grownBy w' none) := findNot base d mb n off set ah kp wn V B s c w h hnm hc
  have q0 := hc.ne
  clear h hc
  go_enter Tryz.func53, Tryz.ntmps53
  go_wp2_with fail
  refine HF.out.mono ?_
  rintro e w1 ⟨rfl, hg1⟩
  have HG1 : Hid (w.grownBy w1 none) := hg1
  clear hg1
  go_wp2
  go_ret
  exact ⟨rfl, HG1.out.trans (World.grownBy_alloc w1 _ none)⟩
set_option maxHeartbeats 2000000 in
theorem v_deleteNot (base d mb n : Nat) (off set : Bool) (ah kp wn : Int) (V : Cont) (B : Nat → Prop) (s : ByteArray) (c : Int) (w : World) (h : DV w base d mb n off set ah kp wn V B) (hnm : nameB s = true) (hc : NotThere off V s c) :
    Calls Tryz.prog 90 #[.pointer (some ⟨d, 0, none⟩), .string s] w fun e w' => e = .returned (.int .i64 c) ∧ w.grownBy w' none := by
  obtain ⟨hg, _⟩ := box2_facts w d s
  have HF : Hid (Calls Tryz.prog 94 #[.pointer (some ⟨d, 0, none⟩), .string s] (box2 w d s) fun e w' => e = .returned (.tuple #[.pointer none, .int .i64 c]) ∧ (box2 w d s).grownBy w' none) := findNot base d mb n off set ah kp wn V B s c _ (h.kept hg) hnm hc
  have q0 := hc.ne
  have HG : Hid (w.grownBy (box2 w d s) none) := hg
  unfold box2 at HF HG
  clear h hc hg
  go_enter Tryz.func90, Tryz.ntmps90
  go_wp2_with fail
  refine HF.out.mono ?_
  rintro e w1 ⟨rfl, hg1⟩
  have HG1 : Hid (w.grownBy w1 none) := HG.out.trans hg1
  clear hg1
  go_wp2
  go_ret
  exact ⟨rfl, HG1.out⟩
set_option maxHeartbeats 4000000 in
theorem v_renameNot (base d mb n : Nat) (off set : Bool) (ah kp wn : Int) (V : Cont) (B : Nat → Prop) (s t : ByteArray) (c : Int) (w : World) (h : DV w base d mb n off set ah kp wn V B) (hns : nameB s = true) (hnt : nameB t = true) (hc : NotThere off V s c) :
    Calls Tryz.prog 126 #[.pointer (some ⟨d, 0, none⟩), .string s, .string t] w fun e w' => e = .returned (.int .i64 c) ∧ w.grownBy w' none := by
  obtain ⟨hg, r3, r4, r5, hsl⟩ := box4_facts w d s t
  have hss := nameB_size hns
  have hst := nameB_size hnt
  have hd4 := h.kept hg
  have HRC : Hid (Calls Tryz.prog 65 #[.pointer (some ⟨d, 0, none⟩), .slice (some ⟨w.heap.size + 1 + 1 + 1, 0, none⟩) 2 2] (box4 w d s t) fun e w' => e = .returned (.int .i64 (reachC off [s, t])) ∧ (box4 w d s t) = w') :=
    d_reach d mb off set ah kp wn _ [s, t] 2 2 _ hd4.row hsl rfl (by omega) (by intro x hx; simp only [List.mem_cons, List.mem_nil_iff, or_false] at hx; rcases hx with rfl | rfl <;> omega)
  have HF : Hid (Calls Tryz.prog 94 #[.pointer (some ⟨d, 0, none⟩), .string s] (box4 w d s t) fun e w' => e = .returned (.tuple #[.pointer none, .int .i64 c]) ∧ (box4 w d s t).grownBy w' none) := findNot base d mb n off set ah kp wn V B s c _ hd4 hns hc
  have q0 := hc.ne
  have HG : Hid (w.grownBy (box4 w d s t) none) := hg
  unfold box4 at HRC HF HG
  cases off with
  | true =>
    obtain rfl : c = 60 := by rcases hc with ⟨_, rfl⟩ | ⟨h0, _⟩; rfl; cases h0
    rw [show reachC true [s, t] = 60 from rfl] at HRC
    clear h hc hg hd4 r3 r4 r5 hsl HF
    go_enter Tryz.func126, Tryz.ntmps126
    go_wp2_with fail
    refine HRC.out.mono ?_
    rintro e w' ⟨rfl, rfl⟩
    go_wp2
    go_ret
    exact ⟨rfl, HG.out⟩
  | false =>
    rw [show reachC false [s, t] = 0 by simp [reachC, hns, hnt]] at HRC
    clear h hc hg hd4 r3 r4 r5 hsl
    go_enter Tryz.func126, Tryz.ntmps126
    go_wp2_with fail
    refine HRC.out.mono ?_
    rintro e w' ⟨rfl, rfl⟩
    go_wp2_with fail
    refine HF.out.mono ?_
    rintro e w5 ⟨rfl, hg5⟩
    have HG5 : Hid (w.grownBy w5 none) := HG.out.trans hg5
    clear hg5
    go_wp2
    go_ret
    exact ⟨rfl, HG5.out.trans (World.grownBy_alloc w5 _ none)⟩
/-- The disk as a value. -/
structure DSt where
  off : Bool
  set : Bool
  ah : Int
  kp : Int
  wn : Int
  V : Cont
def DSt.ok (x : DSt) : Prop := (0 ≤ x.wn ∧ x.wn ≤ 1000000000) ∧ (x.set = true → 0 ≤ x.ah ∧ x.ah ≤ 9223372036854775807) ∧ -9223372036854775808 ≤ x.kp ∧ x.kp ≤ 9223372036854775807
/-- A write of a disk that is on. -/
def DSt.wr (x : DSt) (lands : Bool) (eff : Cont) : Int × DSt :=
  if x.set = false then (0, { x with wn := x.wn + 1, V := eff })
  else if x.ah = 0 then (60, ⟨true, false, 0, 0, x.wn + 1, fun t => ((if lands = true then eff else x.V) t).map (cutV x.kp)⟩)
  else (0, { x with ah := x.ah - 1, wn := x.wn + 1, V := eff })
def DSt.append (x : DSt) (s : ByteArray) (zs : List Int) : Int × DSt :=
  if x.off = true then (60, x) else x.wr true (setV x.V s (some ((oldV x.V s).1 ++ zs, (oldV x.V s).2)))
def DSt.sync (x : DSt) (s : ByteArray) : Int × DSt :=
  if x.off = true then (60, x) else match x.V s with
    | none => (62, x)
    | some p => x.wr false (setV x.V s (some (p.1, p.1.length)))
def DSt.rename (x : DSt) (s t : ByteArray) : Int × DSt :=
  if x.off = true then (60, x) else match x.V s with
    | none => (62, x)
    | some p => x.wr false (setV (setV x.V s none) t (some p))
def DSt.delete (x : DSt) (s : ByteArray) : Int × DSt :=
  if x.off = true then (60, x) else match x.V s with
    | none => (62, x)
    | some _ => x.wr false (setV x.V s none)
def DSt.power (x : DSt) (keep : Int) : DSt := if x.off = true then { x with set := false, ah := 0, kp := 0 } else ⟨true, false, 0, 0, x.wn, fun t => (x.V t).map (cutV keep)⟩
/-- The disk at d has that value. -/
def DS (w : World) (base d mb n : Nat) (x : DSt) (B : Nat → Prop) : Prop := DV w base d mb n x.off x.set x.ah x.kp x.wn x.V B
/-- A call leaves the disk at that value. -/
def Leaves (w : World) (base d mb n : Nat) (r : Int × DSt) (B : Nat → Prop) (e : Ending) (w' : World) : Prop := e = .returned (.int .i64 r.1) ∧ ∃ n' B', n' ≤ n + 1 ∧ DS w' base d mb n' r.2 B' ∧ Step w w' B B'
theorem leaves_same {w w' : World} {base d mb n : Nat} {c : Int} {x : DSt} {B : Nat → Prop} (h : DS w base d mb n x B) (hg : w.grownBy w' none) : Leaves w base d mb n (c, x) B (.returned (.int .i64 c)) w' :=
  ⟨rfl, n, B, Nat.le_succ _, DV.kept h hg, Step.grown B hg⟩
theorem x_sync (base d mb n : Nat) (x : DSt) (B : Nat → Prop) (s : ByteArray) (w : World) (h : DS w base d mb n x B) (hok : x.ok) (hnm : nameB s = true) :
    Calls Tryz.prog 53 #[.pointer (some ⟨d, 0, none⟩), .string s] w (Leaves w base d mb n (x.sync s) B) := by
  obtain ⟨off, set, ah, kp, wn, V⟩ := x
  obtain ⟨hw, ha, hk⟩ := hok
  unfold DSt.sync
  cases off with
  | true =>
    refine (v_syncNot base d mb n true set ah kp wn V B s 60 w h hnm (.inl ⟨rfl, rfl⟩)).mono ?_
    rintro e w' ⟨rfl, hg⟩
    exact leaves_same h hg
  | false =>
    rw [if_neg (by simp)]
    dsimp only
    cases hV : V s with
    | none =>
      refine (v_syncNot base d mb n false set ah kp wn V B s 62 w h hnm (.inr ⟨rfl, hV, rfl⟩)).mono ?_
      rintro e w' ⟨rfl, hg⟩
      exact leaves_same h hg
    | some p =>
      obtain ⟨Z, Y⟩ := p
      dsimp only
      unfold DSt.wr
      cases set with
      | false =>
        refine (v_sync base d mb n ah kp wn V B s Z Y w h hnm hV hw).mono ?_
        rintro e w' ⟨rfl, B', hd', hst⟩
        exact ⟨rfl, n, B', Nat.le_succ _, hd', hst⟩
      | true =>
        rw [if_neg (by simp)]
        by_cases h0 : ah = 0
        · subst h0
          refine (v_syncLost base d mb n kp wn V B s Z Y w h hnm hV hw hk).mono ?_
          rintro e w' ⟨rfl, hd', hst⟩
          exact ⟨rfl, n, B, Nat.le_succ _, hd', hst⟩
        · rw [if_neg h0]
          have h1 := ha rfl
          refine (v_syncArmed base d mb n ah kp wn V B s Z Y w h hnm hV hw (by dsimp only at h1; omega)).mono ?_
          rintro e w' ⟨rfl, B', hd', hst⟩
          exact ⟨rfl, n, B', Nat.le_succ _, hd', hst⟩
theorem x_delete (base d mb n : Nat) (x : DSt) (B : Nat → Prop) (s : ByteArray) (w : World) (h : DS w base d mb n x B) (hok : x.ok) (hnm : nameB s = true) :
    Calls Tryz.prog 90 #[.pointer (some ⟨d, 0, none⟩), .string s] w (Leaves w base d mb n (x.delete s) B) := by
  obtain ⟨off, set, ah, kp, wn, V⟩ := x
  obtain ⟨hw, ha, hk⟩ := hok
  unfold DSt.delete
  cases off with
  | true =>
    refine (v_deleteNot base d mb n true set ah kp wn V B s 60 w h hnm (.inl ⟨rfl, rfl⟩)).mono ?_
    rintro e w' ⟨rfl, hg⟩
    exact leaves_same h hg
  | false =>
    rw [if_neg (by simp)]
    dsimp only
    cases hV : V s with
    | none =>
      refine (v_deleteNot base d mb n false set ah kp wn V B s 62 w h hnm (.inr ⟨rfl, hV, rfl⟩)).mono ?_
      rintro e w' ⟨rfl, hg⟩
      exact leaves_same h hg
    | some p =>
      obtain ⟨Z, Y⟩ := p
      dsimp only
      unfold DSt.wr
      cases set with
      | false =>
        refine (v_delete base d mb n ah kp wn V B s Z Y w h hnm hV hw).mono ?_
        rintro e w' ⟨rfl, hd', hst⟩
        exact ⟨rfl, n, B, Nat.le_succ _, hd', hst⟩
      | true =>
        rw [if_neg (by simp)]
        by_cases h0 : ah = 0
        · subst h0
          refine (v_deleteLost base d mb n kp wn V B s Z Y w h hnm hV hw hk).mono ?_
          rintro e w' ⟨rfl, hd', hst⟩
          exact ⟨rfl, n, B, Nat.le_succ _, hd', hst⟩
        · rw [if_neg h0]
          have h1 := ha rfl
          refine (v_deleteArmed base d mb n ah kp wn V B s Z Y w h hnm hV hw (by dsimp only at h1; omega)).mono ?_
          rintro e w' ⟨rfl, hd', hst⟩
          exact ⟨rfl, n, B, Nat.le_succ _, hd', hst⟩
theorem x_rename (base d mb n : Nat) (x : DSt) (B : Nat → Prop) (s t : ByteArray) (w : World) (h : DS w base d mb n x B) (hok : x.ok) (hns : nameB s = true) (hnt : nameB t = true) (hn : n ≤ 1048576) :
    Calls Tryz.prog 126 #[.pointer (some ⟨d, 0, none⟩), .string s, .string t] w (Leaves w base d mb n (x.rename s t) B) := by
  obtain ⟨off, set, ah, kp, wn, V⟩ := x
  obtain ⟨hw, ha, hk⟩ := hok
  unfold DSt.rename
  cases off with
  | true =>
    refine (v_renameNot base d mb n true set ah kp wn V B s t 60 w h hns hnt (.inl ⟨rfl, rfl⟩)).mono ?_
    rintro e w' ⟨rfl, hg⟩
    exact leaves_same h hg
  | false =>
    rw [if_neg (by simp)]
    dsimp only
    cases hV : V s with
    | none =>
      refine (v_renameNot base d mb n false set ah kp wn V B s t 62 w h hns hnt (.inr ⟨rfl, hV, rfl⟩)).mono ?_
      rintro e w' ⟨rfl, hg⟩
      exact leaves_same h hg
    | some p =>
      obtain ⟨Z, Y⟩ := p
      dsimp only
      unfold DSt.wr
      cases set with
      | false =>
        refine (v_rename base d mb n ah kp wn V B s t Z Y w h hns hnt hV hn hw).mono ?_
        rintro e w' ⟨rfl, hd', hst⟩
        exact ⟨rfl, n + 1, B, Nat.le_refl _, hd', hst⟩
      | true =>
        rw [if_neg (by simp)]
        by_cases h0 : ah = 0
        · subst h0
          refine (v_renameLost base d mb n kp wn V B s t Z Y w h hns hnt hV hw hk).mono ?_
          rintro e w' ⟨rfl, hd', hst⟩
          exact ⟨rfl, n, B, Nat.le_succ _, hd', hst⟩
        · rw [if_neg h0]
          have h1 := ha rfl
          refine (v_renameArmed base d mb n ah kp wn V B s t Z Y w h hns hnt hV hn hw (by dsimp only at h1; omega)).mono ?_
          rintro e w' ⟨rfl, hd', hst⟩
          exact ⟨rfl, n + 1, B, Nat.le_refl _, hd', hst⟩
theorem x_append (base d mb n : Nat) (x : DSt) (B : Nat → Prop) (s : ByteArray) (ad : Addr) (zs : List Int) (M cd : Nat) (w : World) (h : DS w base d mb n x B) (hok : x.ok) (hnm : nameB s = true) (hn : n < 1048576) (hr : SRd byteE w (some ad) zs) (hM : zs.length = M) (hby : ∀ z ∈ zs, 0 ≤ z ∧ z ≤ 255) (hlen : (oldV x.V s).1.length + M ≤ 4194304) (hb : base ≤ w.heap.size) (had : ad.block ≠ mb) (hadd : ad.block ≠ d) :
    Calls Tryz.prog 27 #[.pointer (some ⟨d, 0, none⟩), .string s, .slice (some ad) M cd] w (Leaves w base d mb n (x.append s zs) B) := by
  obtain ⟨off, set, ah, kp, wn, V⟩ := x
  obtain ⟨hw, ha, hk⟩ := hok
  have hss := nameB_size hnm
  unfold DSt.append
  cases off with
  | true =>
    refine (v_appendOff base d mb n set ah kp wn V B s (some ad) M cd w h (by omega)).mono ?_
    rintro e w' ⟨rfl, hg⟩
    exact leaves_same h hg
  | false =>
    rw [if_neg (by simp)]
    unfold DSt.wr
    cases set with
    | false =>
      refine (v_append base d mb n ah kp wn V B s ad zs M cd w h hnm hn hw hr hM hby hlen hb had hadd).mono ?_
      rintro e w' ⟨rfl, n', B', hn', hd', hst⟩
      exact ⟨rfl, n', B', hn', hd', hst⟩
    | true =>
      rw [if_neg (by simp)]
      by_cases h0 : ah = 0
      · subst h0
        refine (v_appendCut base d mb n kp wn V B s ad zs M cd w h hk hnm hn hw hr hM hby hlen hb had hadd).mono ?_
        rintro e w' ⟨rfl, n', B', hn', hd', hst⟩
        exact ⟨rfl, n', B', hn', hd', hst⟩
      · rw [if_neg h0]
        have h1 := ha rfl
        refine (v_appendArmed base d mb n ah kp wn V B s ad zs M cd w h (by dsimp only at h1; omega) hnm hn hw hr hM hby hlen hb had hadd).mono ?_
        rintro e w' ⟨rfl, n', B', hn', hd', hst⟩
        exact ⟨rfl, n', B', hn', hd', hst⟩
end Go.Proofs.YtbhffjeoakalbaaGreatDoor
