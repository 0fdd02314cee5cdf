/- Several texts in one: Dk14, Dk15, Dk16, Dk17, Shelf, Dk19, Dk20. -/
import Derived.Test.YtgpgkpciajajcaaGreatDoorGad
import Derived.Shelf.Strings.Builder1
import Derived.Shelf.Strings.Builder2
import Derived.Shelf.Small.Bits
import Derived.Shelf.Small.Wraps
import Derived.Shelf.Strings.BuilderF
import Derived.Shelf.Strconv.Itoa0
import Derived.Shelf.Strconv.Itoa1
import Derived.Shelf.LaysM
import Derived.Shelf.Strconv.Itoa2
import Derived.Shelf.Strconv.Itoa3
import Derived.Shelf.Strconv.Lower
import Derived.Shelf.Strconv.ParseUint10b32
import Derived.Shelf.Sort.Plain
import Derived.Shelf.Strings.Prefix
import Derived.Shelf.Bits.Mul64
import Derived.Shelf.Strings.Repeat
import Derived.Ground.Names2Prog
import Derived.Shelf.Slices.SearchI
import Derived.Shelf.Slices.In.SortNone
import Derived.Test.YtgpgkpciajajcaaGreatDoorProg
import Derived.Sort.OwnSorted
/- The law's own first look at a disk. -/
namespace Go.Proofs.YtgpgkpciajajcaaGreatDoor
open Go.RowKit Go.Maps
set_option linter.unusedVariables false
set_option maxRecDepth 20000

/-- From the first world on: nothing that was there is among the disk's blocks. -/
def From (w0 w : World) (B : Nat → Prop) : Prop := w0.grownBy w none ∧ ∀ k, k < w0.heap.size → ¬ B k
theorem From.step {w0 w w' : World} {B B' : Nat → Prop} (h : From w0 w B) (hs : Step w w' B B') : From w0 w' B' := by
  obtain ⟨hg, hB⟩ := h
  refine ⟨⟨hs.1.os.trans hg.os, hs.1.tape.trans hg.tape, hs.1.output.trans hg.output, Nat.le_trans hg.size hs.1.size, fun k hk hne => (hs.1.block k (Nat.lt_of_lt_of_le hk hg.size) (hB k hk)).trans (hg.block k hk hne)⟩, fun k hk hb => hB k hk (hs.2 k (Nat.lt_of_lt_of_le hk hg.size) hb)⟩
theorem From.grown {w0 w w' : World} {B : Nat → Prop} (h : From w0 w B) (hg : w.grownBy w' none) : From w0 w' B := ⟨h.1.trans hg, h.2⟩
theorem srd_rd {w : World} {a : Option Addr} {l : List Int} (h : SRd byteE w a l) (hb : ∀ z ∈ l, 0 ≤ z ∧ z ≤ 255) : Rd w a l := by
  refine ⟨?_, hb⟩
  rcases h with h | ⟨b, off, e, h⟩
  · exact .inl h
  · refine .inr ⟨b, off, e, fun i hi => h i _ ?_⟩
    rw [byteE_flat, List.getElem?_map, List.getElem?_eq_getElem hi]
    simp [List.getD, List.getElem?_eq_getElem hi]
theorem SRd.step {w w' : World} {B B' : Nat → Prop} {a : Option Addr} {l : List Int} (h : SRd byteE w a l) (hs : Kept w w' B) (hx : ∀ x, a = some x → x.block < w.heap.size ∧ ¬ B x.block) : SRd byteE w' a l := by
  rcases h with e | ⟨b, off, e, h⟩
  · exact .inl e
  · refine .inr ⟨b, off, e, fun j v hj => ?_⟩
    have hc := h j v hj
    obtain ⟨h1, h2⟩ := hx _ e
    unfold World.cell? at hc ⊢
    rw [hs.block b h1 h2]
    exact hc
def nmA : ByteArray := ⟨#[97]⟩
def nmB : ByteArray := ⟨#[98]⟩
def V0 : Cont := fun _ => none
def V1 : Cont := setV V0 nmA (some ([1, 2], 0))
def V2 : Cont := setV V1 nmA (some ([1, 2], 2))
def V3 : Cont := setV V2 nmA (some ([1, 2, 3, 4], 2))
def V4 : Cont := fun t => (V3 t).map (cutV 1)
end Go.Proofs.YtgpgkpciajajcaaGreatDoor

/- Package disk: Rename, done. -/
namespace Go.Proofs.YtgpgkpciajajcaaGreatDoor
open Go.RowKit Go.Maps
set_option linter.unusedVariables false
set_option maxRecDepth 20000

/-- A file has another name. -/
theorem DiskIs.moved {w w' : World} {base d mb n n' b : Nat} {off set : Bool} {ah kp wn : Int} {F : ByteArray → Option Nat} {G : Nat → FD} {s t : ByteArray} (h : DiskIs w base d mb n off set ah kp wn F G) (hs : F s = some b) (hm : MapIs w' mb n' (setF (setF F s none) t (some b))) (hk : Kept w w' (fun k => k = mb)) :
    DiskIs w' base d mb n' off set ah kp wn (setF (setF F s none) t (some b)) G := by
  have hdm : d ≠ mb := map_ne h.row h.map
  have hold : ∀ x c, setF (setF F s none) t (some b) x = some c → (x = t ∧ c = b) ∨ (x ≠ t ∧ x ≠ s ∧ F x = some c) := by
    intro x c hx
    by_cases e : x = t
    · subst e; rw [setF_same] at hx; exact .inl ⟨rfl, (Option.some.inj hx).symm⟩
    · rw [setF_other _ _ e] at hx
      by_cases e' : x = s
      · subst e'; rw [setF_same] at hx; cases hx
      · rw [setF_other _ _ e'] at hx; exact .inr ⟨e, e', hx⟩
  have hsrc : ∀ x c, setF (setF F s none) t (some b) x = some c → ∃ y, F y = some c := by
    intro x c hx
    rcases hold x c hx with ⟨_, rfl⟩ | ⟨_, _, h3⟩
    · exact ⟨s, hs⟩
    · exact ⟨x, h3⟩
  refine ⟨h.row.of_block (hk.block d h.row.lt hdm), hm, fun x c hx => ?_, fun x y c hx hy => ?_, fun x y c c' hx hy hne => ?_, h.hd, h.hmb⟩
  · obtain ⟨y, hy⟩ := hsrc x c hx
    have hl := h.lt y c hy
    exact ⟨FIs.stay (h.file y c hy).1 (hk.block c hl.1 hl.2.2) (fun z hz => hk.block z.block (h.slc hy hz).2.1 (h.slc hy hz).2.2.2.1), (h.file y c hy).2⟩
  · rcases hold x c hx with ⟨rfl, rfl⟩ | ⟨h1, h2, h3⟩
    · rcases hold y c hy with ⟨rfl, _⟩ | ⟨k1, k2, k3⟩
      · rfl
      · exact absurd (h.inj y s c k3 hs) k2
    · rcases hold y c hy with ⟨rfl, rfl⟩ | ⟨k1, k2, k3⟩
      · exact absurd (h.inj x s c h3 hs) h2
      · exact h.inj x y c h3 k3
  · obtain ⟨x', hx'⟩ := hsrc x c hx
    obtain ⟨y', hy'⟩ := hsrc y c' hy
    exact h.apart x' y' c c' hx' hy' hne
set_option maxHeartbeats 4000000 in
theorem d_ren1 (base d mb n b B3 B4 B5 p : Nat) (off set : Bool) (ah kp wn : Int) (F : ByteArray → Option Nat) (G : Nat → FD) (s t : ByteArray) (w : World) (h : DiskIs w base d mb n off set ah kp wn F G) (hs : F s = some b) (hss : s.size ≤ 64) (hst : t.size ≤ 64) (hn : n ≤ 1048576)
    (hB3 : w.rowIs B3 23 1 (fun _ => .pointer (some ⟨d, 0, none⟩))) (hB4 : w.rowIs B4 9 1 (fun _ => .string s)) (hB5 : w.rowIs B5 9 1 (fun _ => .string t)) (hp : w.rowIs p 114 1 (fun _ => .pointer (some ⟨b, 0, none⟩))) :
    Calls Tryz.prog 185 #[.pointer (some ⟨B3, 0, none⟩), .pointer (some ⟨B4, 0, none⟩), .pointer (some ⟨p, 0, none⟩), .pointer (some ⟨B5, 0, none⟩)] w fun e w' => e = .returned (.tuple #[]) ∧ DiskIs w' base d mb (n + 1) off set ah kp wn (setF (setF F s none) t (some b)) G ∧ Kept w w' (fun k => k = mb) := by
  obtain ⟨c0, c1, c2, c3, c4, c5⟩ := h.row.cells
  have p3 : w.cell? ⟨B3, 0, none⟩ = some (.pointer (some ⟨d, 0, none⟩)) := hB3.cell (i := 0) (by omega)
  have p4 : w.cell? ⟨B4, 0, none⟩ = some (.string s) := hB4.cell (i := 0) (by omega)
  obtain ⟨w1, hdel, hm1, hg1⟩ := h.drew.map.del s hss 0
  obtain ⟨w2, hput, hm2, hg2⟩ := (hm1.kept (gb_drew (World.grownBy.refl w1 none)) (by simp)).put t hst hn b
  have hk1 : Kept w w1 (fun k => k = mb) := Kept.of (show w.grownBy w1 (some mb) from ⟨hg1.os, hg1.tape, hg1.output, hg1.size, hg1.block⟩) (fun k hk => by cases hk; rfl)
  have hk2 : Kept w w2 (fun k => k = mb) := hk1.trans (Kept.of (show w1.grownBy w2 (some mb) from ⟨hg2.os, hg2.tape, hg2.output, hg2.size, hg2.block⟩) (X := fun k => k = mb) (fun k hk => by cases hk; rfl)) (fun k _ hk => hk)
  have HE : Hid (DiskIs w2 base d mb (n + 1) off set ah kp wn (setF (setF F s none) t (some b)) G ∧ Kept w w2 (fun k => k = mb)) := ⟨h.moved hs hm2 hk2, hk2⟩
  have hdm : d ≠ mb := map_ne h.row h.map
  have q3 : w1.cell? ⟨B3, 0, none⟩ = some (.pointer (some ⟨d, 0, none⟩)) := kept_cell hk1 p3 (map_ne hB3 h.map)
  have q0 : w1.cell? ⟨d, 0, none⟩ = some (.map (some mb)) := kept_cell hk1 c0 hdm
  have q5 : w1.cell? ⟨B5, 0, none⟩ = some (.string t) := kept_cell hk1 (hB5.cell (i := 0) (by omega)) (map_ne hB5 h.map)
  have qp : w1.cell? ⟨p, 0, none⟩ = some (.pointer (some ⟨b, 0, none⟩)) := kept_cell hk1 (hp.cell (i := 0) (by omega)) (map_ne hp h.map)
  clear h hs hB3 hB4 hB5 hp hm1 hm2 hg1 hg2 hk1 hk2 c1 c2 c3 c4 c5
  go_enter Tryz.func185, Tryz.ntmps185
  go_wp2_with fail
  go_region
  all_goals go_wp2_with fail
  all_goals go_region
  all_goals go_wp2
  all_goals go_end0
  all_goals exact ⟨rfl, HE.out.1, HE.out.2⟩
theorem v_rename (base d mb n : Nat) (ah kp wn : Int) (V : Cont) (B : Nat → Prop) (s t : ByteArray) (Z : List Int) (Y : Nat) (w : World) (h : DV w base d mb n false false ah kp wn V B) (hns : nameB s = true) (hnt : nameB t = true) (hs : V s = some (Z, Y)) (hn : n ≤ 1048576) (hw : 0 ≤ wn ∧ wn ≤ 1000000000) :
    Calls Tryz.prog 166 #[.pointer (some ⟨d, 0, none⟩), .string s, .string t] w fun e w' => e = .returned (.int .i64 0) ∧ DV w' base d mb (n + 1) false false ah kp (wn + 1) (setV (setV V s none) t (some (Z, Y))) B ∧ Step w w' B B := by
  obtain ⟨F, G, hd, hv, hB⟩ := h
  obtain ⟨b, hF, hZ, hY⟩ : ∃ b, F s = some b ∧ (G b).zs = Z ∧ (G b).syn = Y := by
    rw [hv s] at hs
    cases hF : F s with
    | none => rw [hF] at hs; cases hs
    | some b => rw [hF] at hs; simp only [Option.map_some, Option.some.injEq, Prod.mk.injEq] at hs; exact ⟨b, rfl, hs.1, hs.2⟩
  obtain ⟨hg, r3, r4, r5, _⟩ := box4_facts w d s t
  refine (v_renameBy base d mb n b false ah kp wn F G s t (fun c w' => c = 0 ∧ DV w' base d mb (n + 1) false false ah kp (wn + 1) (setV (setV V s none) t (some (Z, Y))) B ∧ Step w w' B B) w hd hns hnt hF ?_).mono ?_
  · intro W p hgW hp
    have hdW := hd.kept (hg.trans hgW)
    refine (d_writeGo52 base d mb n false false ah kp wn F G _ (fun w' => DV w' base d mb (n + 1) false false ah kp (wn + 1) (setV (setV V s none) t (some (Z, Y))) B ∧ Step w w' B B) W hdW hw ?_).mono ?_
    · intro w1 h1 hk1
      have k3 : W.rowIs w.heap.size 23 1 (fun _ => .pointer (some ⟨d, 0, none⟩)) := r3.of_block (hgW.block _ r3.lt (by simp))
      have k4 : W.rowIs (w.heap.size + 1) 9 1 (fun _ => .string s) := r4.of_block (hgW.block _ r4.lt (by simp))
      have k5 : W.rowIs (w.heap.size + 1 + 1) 9 1 (fun _ => .string t) := r5.of_block (hgW.block _ r5.lt (by simp))
      refine (d_ren1 base d mb n b _ _ _ p false false ah kp (wn + 1) F G s t w1 h1 hF (nameB_size hns) (nameB_size hnt) hn (k3.of_block (hk1.block _ k3.lt (row_ne k3 hdW.row (by decide)))) (k4.of_block (hk1.block _ k4.lt (row_ne k4 hdW.row (by decide)))) (k5.of_block (hk1.block _ k5.lt (row_ne k5 hdW.row (by decide)))) (hp.of_block (hk1.block _ hp.lt (row_ne hp hdW.row (by decide))))).mono ?_
      rintro e w' ⟨rfl, hd', hk'⟩
      refine ⟨rfl, ⟨_, G, hd', fun x => ?_, fun k hk => ?_⟩, ((Step.grown B (hg.trans hgW)).trans ⟨hk1.mono (fun k _ hk => hB k (.inl hk)), fun k _ hk => hk⟩).trans ⟨hk'.mono (fun k _ hk => hB k (.inr (.inl hk))), fun k _ hk => hk⟩⟩
      · by_cases e : x = t
        · subst e; rw [setV_same, setF_same, Option.map_some, hZ, hY]
        · rw [setV_other _ _ e, setF_other _ _ e]
          by_cases e' : x = s
          · subst e'; rw [setV_same, setF_same]; rfl
          · rw [setV_other _ _ e', setF_other _ _ e']; exact hv x
      · rcases hk with e | e | ⟨x, c, hx, e⟩
        · exact hB k (.inl e)
        · exact hB k (.inr (.inl e))
        · have : ∃ y, F y = some c := by
            by_cases e1 : x = t
            · subst e1; rw [setF_same] at hx; obtain rfl := Option.some.inj hx; exact ⟨s, hF⟩
            · rw [setF_other _ _ e1] at hx
              by_cases e2 : x = s
              · subst e2; rw [setF_same] at hx; cases hx
              · rw [setF_other _ _ e2] at hx; exact ⟨x, hx⟩
          obtain ⟨y, hy⟩ := this
          exact hB k (.inr (.inr ⟨y, c, hy, e⟩))
    · rintro e w' ⟨rfl, hP⟩
      exact ⟨0, rfl, rfl, hP⟩
  · rintro e w' ⟨c, rfl, rfl, hP⟩
    exact ⟨rfl, hP⟩
end Go.Proofs.YtgpgkpciajajcaaGreatDoor

/- Package disk: List of a disk with one file. -/
namespace Go.Proofs.YtgpgkpciajajcaaGreatDoor
open Go.RowKit Go.Maps
set_option linter.unusedVariables false
set_option maxRecDepth 20000

theorem info9 : (Tryz.prog.info? 9).map (fun i => (i.zero, i.size, i.bytes)) = some (some (.string ByteArray.empty), 1, 16) := by kernel_rfl
theorem strET : ElemOf strE Tryz.prog 47 9 16 := by
  obtain ⟨i0, hi, hz0, hz1, hz2⟩ := info_parts info9
  exact ⟨Tryz.underlying47, i0, _, hi, hz0, hz1, hz2, rfl⟩
end Go.Proofs.YtgpgkpciajajcaaGreatDoor

/- Package disk: List of a disk with one file; SameTexts of two slices with one text. -/
namespace Go.Proofs.YtgpgkpciajajcaaGreatDoor
open Go.RowKit Go.Maps
set_option linter.unusedVariables false
set_option maxRecDepth 20000

theorem sown_sliceT {w : World} {base n : Nat} {v : Value} {l : List ByteArray} (h : SOwn strE 9 w base v n l) : ∃ a c, v = .slice a n c := by
  rcases h.2 with ⟨h', h0⟩ | ⟨g, cap, cur, h', _⟩
  · exact ⟨none, 0, by rw [h', h0]⟩
  · exact ⟨_, _, h'⟩
set_option maxHeartbeats 2000000 in
theorem same1 (a b : Option Addr) (c c' : Nat) (w : World) (ha : SRd strE w a [nmA]) (hb : SRd strE w b [nmA]) :
    Calls Tryz.prog 37 #[.slice a 1 c, .slice b 1 c'] w fun e w' => e = .returned (.bool true) ∧ w.grownBy w' none := by
  rcases ha with h | ⟨ba, oa, rfl, ha⟩
  · cases h
  rcases hb with h | ⟨bb, ob, rfl, hb⟩
  · cases h
  have a0 : w.cell? ⟨ba, oa, none⟩ = some (.string nmA) := by have := ha 0 _ rfl; simpa using this
  have b0 : w.cell? ⟨bb, ob, none⟩ = some (.string nmA) := by have := hb 0 _ rfl; simpa using this
  clear ha hb
  have HG : Hid (w.grownBy w.drew none) := gb_drew (World.grownBy.refl _ _)
  go_enter Tryz.func37, Tryz.ntmps37
  go_wp2_with fail
  refine wp_loop_rounds 2 ?_
  rw [rounds_succ]
  go_wp2_with fail
  go_region
  all_goals go_wp2_with fail
  all_goals rw [rounds_succ]
  all_goals go_wp2
  all_goals go_ret
  all_goals exact ⟨rfl, HG.out⟩
end Go.Proofs.YtgpgkpciajajcaaGreatDoor

/- The library functions that packages wal and disk call, by their contracts, at this program. -/
namespace Go.Proofs.YtgpgkpciajajcaaGreatDoor
open Go.Shelf
def Tryz.lays103_ren : Go.Shelf.Ren := ⟨fun | 103 => 186 | 210 => 196 | 206 => 77 | n => n, fun | 9 => 9 | 4 => 4 | 24 => 208 | 3 => 3 | n => n, fun | n => n⟩
theorem Tryz.lays103 : Go.Proofs.Lays.n103 Tryz.prog Tryz.lays103_ren := {
  mixed := by kernel_rfl
  f103 := Tryz.func186.trans (congrArg some (by kernel_rfl))
  f206 := Tryz.func77.trans (congrArg some (by kernel_rfl))
  f210 := Tryz.func196.trans (congrArg some (by kernel_rfl))
  t3 := Tryz.underlying3
  a3 := Tryz.isAgg3
  z3 := Tryz.sizeOf3
  v3 := Tryz.zeroValue3
  t4 := Tryz.underlying4
  a4 := Tryz.isAgg4
  z4 := Tryz.sizeOf4
  v4 := Tryz.zeroValue4
  t9 := Tryz.underlying9
  a9 := Tryz.isAgg9
  z9 := Tryz.sizeOf9
  v9 := Tryz.zeroValue9
  t24 := Tryz.underlying208
  a24 := Tryz.isAgg208
  z24 := Tryz.sizeOf208
  v24 := Tryz.zeroValue208 }
open Go.RowKit in
theorem Tryz.strings_CutPrefix (s p : ByteArray) (w : World) :
    Calls Tryz.prog 186 #[.string s, .string p] w fun e w' => e = .returned (.tuple #[.string ⟨(Lib.trimPrefix s.data.toList p.data.toList).toArray⟩, .bool (Lib.hasPrefix s.data.toList p.data.toList)]) ∧ w' = w := Any.strings_CutPrefix Tryz.lays103 s p w
def Tryz.laysM171_ren : Go.Shelf.Ren := ⟨fun | 171 => 164 | 243 => 179 | 246 => 191 | 283 => 201 | 284 => 202 | 285 => 203 | 286 => 204 | 129 => 118 | 317 => 215 | 318 => 216 | 319 => 217 | 320 => 218 | 337 => 223 | 338 => 224 | n => n, fun | 3 => 3 | 9 => 9 | 2 => 2 | 4 => 4 | 171 => 223 | 0 => 0 | 53 => 27 | 37 => 37 | 5 => 5 | 173 => 225 | 212 => 238 | 51 => 152 | 20 => 20 | 213 => 239 | 46 => 123 | 232 => 247 | 233 => 248 | n => n, fun | 17 => 0 | 18 => 4 | 19 => 5 | n => n⟩
theorem Tryz.laysM171 : Go.Proofs.LaysM.n171 Tryz.prog Tryz.laysM171_ren := {
  mixed := by kernel_rfl
  f129 := Tryz.func118.trans (congrArg some (by kernel_rfl))
  f171 := Tryz.func164.trans (congrArg some (by kernel_rfl))
  f243 := Tryz.func179.trans (congrArg some (by kernel_rfl))
  f246 := Tryz.func191.trans (congrArg some (by kernel_rfl))
  f283 := Tryz.func201.trans (congrArg some (by kernel_rfl))
  f284 := Tryz.func202.trans (congrArg some (by kernel_rfl))
  f285 := Tryz.func203.trans (congrArg some (by kernel_rfl))
  f286 := Tryz.func204.trans (congrArg some (by kernel_rfl))
  f317 := Tryz.func215.trans (congrArg some (by kernel_rfl))
  f318 := Tryz.func216.trans (congrArg some (by kernel_rfl))
  f319 := Tryz.func217.trans (congrArg some (by kernel_rfl))
  f320 := Tryz.func218.trans (congrArg some (by kernel_rfl))
  f337 := Tryz.func223.trans (congrArg some (by kernel_rfl))
  f338 := Tryz.func224.trans (congrArg some (by kernel_rfl))
  t0 := Tryz.underlying0
  a0 := Tryz.isAgg0
  z0 := Tryz.sizeOf0
  v0 := Tryz.zeroValue0
  t2 := Tryz.underlying2
  a2 := Tryz.isAgg2
  z2 := Tryz.sizeOf2
  v2 := Tryz.zeroValue2
  t3 := Tryz.underlying3
  a3 := Tryz.isAgg3
  z3 := Tryz.sizeOf3
  v3 := Tryz.zeroValue3
  t4 := Tryz.underlying4
  a4 := Tryz.isAgg4
  z4 := Tryz.sizeOf4
  v4 := Tryz.zeroValue4
  t5 := Tryz.underlying5
  a5 := Tryz.isAgg5
  z5 := Tryz.sizeOf5
  v5 := Tryz.zeroValue5
  t9 := Tryz.underlying9
  a9 := Tryz.isAgg9
  z9 := Tryz.sizeOf9
  v9 := Tryz.zeroValue9
  t20 := Tryz.underlying20
  a20 := Tryz.isAgg20
  z20 := Tryz.sizeOf20
  v20 := Tryz.zeroValue20
  t37 := Tryz.underlying37
  a37 := Tryz.isAgg37
  z37 := Tryz.sizeOf37
  v37 := Tryz.zeroValue37
  t46 := Tryz.underlying123
  a46 := Tryz.isAgg123
  z46 := Tryz.sizeOf123
  v46 := Tryz.zeroValue123
  t51 := Tryz.underlying152
  a51 := Tryz.isAgg152
  z51 := Tryz.sizeOf152
  v51 := Tryz.zeroValue152
  t53 := Tryz.underlying27
  a53 := Tryz.isAgg27
  z53 := Tryz.sizeOf27
  v53 := Tryz.zeroValue27
  t171 := Tryz.underlying223
  a171 := Tryz.isAgg223
  z171 := Tryz.sizeOf223
  v171 := Tryz.zeroValue223
  t173 := Tryz.underlying225
  a173 := Tryz.isAgg225
  z173 := Tryz.sizeOf225
  v173 := Tryz.zeroValue225
  t212 := Tryz.underlying238
  a212 := Tryz.isAgg238
  z212 := Tryz.sizeOf238
  v212 := Tryz.zeroValue238
  t213 := Tryz.underlying239
  a213 := Tryz.isAgg239
  z213 := Tryz.sizeOf239
  t232 := Tryz.underlying247
  a232 := Tryz.isAgg247
  z232 := Tryz.sizeOf247
  v232 := Tryz.zeroValue247
  t233 := Tryz.underlying248
  a233 := Tryz.isAgg248
  z233 := Tryz.sizeOf248
  v233 := Tryz.zeroValue248
  g17 := by kernel_rfl
  g18 := by kernel_rfl
  g19 := by kernel_rfl
  i0 := by kernel_rfl
  i2 := by kernel_rfl
  i3 := by kernel_rfl
  i4 := by kernel_rfl
  i5 := by kernel_rfl
  i9 := by kernel_rfl
  i20 := by kernel_rfl
  i37 := by kernel_rfl
  i46 := by kernel_rfl
  i51 := by kernel_rfl
  i53 := by kernel_rfl
  i171 := by kernel_rfl
  i173 := by kernel_rfl
  i212 := by kernel_rfl
  i232 := by kernel_rfl
  i233 := by kernel_rfl
  m17 := by kernel_rfl
  m18 := by kernel_rfl
  m19 := by kernel_rfl }
open Go.RowKit Go.Sort Go.Lib in
theorem Tryz.strconv_Itoa (n : Int) (h0 : -9223372036854775808 ≤ n) (h1 : n ≤ 9223372036854775807) (w : World) (htab : Lib.TabIs Tryz.prog w "internal/strconv.uint64pow10" .u64 Lib.pow10Tab) :
    Calls Tryz.prog 164 #[.int .i64 n] w fun e w' => e = .returned (.string ⟨(Lib.itoa n).toArray⟩) ∧ ∃ k os, w' = grow (w.drewN k) os := Any.strconv_Itoa Tryz.laysM171 n h0 h1 w htab
def Tryz.lays287_ren : Go.Shelf.Ren := ⟨fun | 287 => 197 | 321 => 207 | 322 => 208 | n => n, fun | 9 => 9 | 3 => 3 | 53 => 27 | 75 => 205 | 4 => 4 | 167 => 230 | 5 => 5 | 46 => 123 | 37 => 37 | 0 => 0 | 21 => 21 | 80 => 171 | n => n, fun | n => n⟩
theorem Tryz.lays287 : Go.Proofs.Lays.n287 Tryz.prog Tryz.lays287_ren := {
  mixed := by kernel_rfl
  f287 := Tryz.func197.trans (congrArg some (by kernel_rfl))
  f321 := Tryz.func207.trans (congrArg some (by kernel_rfl))
  f322 := Tryz.func208.trans (congrArg some (by kernel_rfl))
  t0 := Tryz.underlying0
  a0 := Tryz.isAgg0
  z0 := Tryz.sizeOf0
  v0 := Tryz.zeroValue0
  t3 := Tryz.underlying3
  a3 := Tryz.isAgg3
  z3 := Tryz.sizeOf3
  v3 := Tryz.zeroValue3
  t4 := Tryz.underlying4
  a4 := Tryz.isAgg4
  z4 := Tryz.sizeOf4
  v4 := Tryz.zeroValue4
  t5 := Tryz.underlying5
  a5 := Tryz.isAgg5
  z5 := Tryz.sizeOf5
  v5 := Tryz.zeroValue5
  t9 := Tryz.underlying9
  a9 := Tryz.isAgg9
  z9 := Tryz.sizeOf9
  v9 := Tryz.zeroValue9
  t21 := Tryz.underlying21
  a21 := Tryz.isAgg21
  z21 := Tryz.sizeOf21
  v21 := Tryz.zeroValue21
  t37 := Tryz.underlying37
  a37 := Tryz.isAgg37
  z37 := Tryz.sizeOf37
  v37 := Tryz.zeroValue37
  t46 := Tryz.underlying123
  a46 := Tryz.isAgg123
  z46 := Tryz.sizeOf123
  v46 := Tryz.zeroValue123
  t53 := Tryz.underlying27
  a53 := Tryz.isAgg27
  z53 := Tryz.sizeOf27
  v53 := Tryz.zeroValue27
  t75 := Tryz.underlying205
  a75 := Tryz.isAgg205
  z75 := Tryz.sizeOf205
  v75 := Tryz.zeroValue205
  t167 := Tryz.underlying230
  a167 := Tryz.isAgg230
  z167 := Tryz.sizeOf230
  v167 := Tryz.zeroValue230 }
open Go.RowKit in
theorem Tryz.internal_strconv_ParseUint_10_b32 (t : ByteArray) (hne : t.size ≠ 0) (hmax : t.size ≤ 9223372036854775806) (w : World) :
    Calls Tryz.prog 197 #[.string t, .int .i64 10, .int .i64 32] w fun e w' => e = .returned (Lib.uintTupleM 230 4294967295 (Lib.parseUintM 4294967295 0 t.data.toList)) ∧ w' = Lib.bytesWorld w 5 t := Any.internal_strconv_ParseUint_10_b32 Tryz.lays287 t hne hmax w
def Tryz.lays190_ren : Go.Shelf.Ren := ⟨fun | 190 => 48 | 125 => 79 | 258 => 78 | 128 => 117 | 129 => 118 | 302 => 108 | 303 => 109 | 304 => 110 | 305 => 111 | 306 => 112 | 307 => 113 | 308 => 114 | 309 => 115 | 310 => 116 | 333 => 142 | 329 => 143 | 330 => 144 | 334 => 145 | 335 => 146 | 336 => 147 | 344 => 168 | n => n, fun | 31 => 47 | 9 => 9 | 3 => 3 | 46 => 123 | 0 => 0 | 51 => 152 | 53 => 27 | 4 => 4 | 183 => 146 | 182 => 145 | 131 => 112 | 5 => 5 | 218 => 163 | 222 => 166 | 228 => 186 | 229 => 187 | n => n, fun | n => n⟩
theorem Tryz.lays190 : Go.Proofs.Lays.n190 Tryz.prog Tryz.lays190_ren := {
  mixed := by kernel_rfl
  f125 := Tryz.func79.trans (congrArg some (by kernel_rfl))
  f128 := Tryz.func117.trans (congrArg some (by kernel_rfl))
  f129 := Tryz.func118.trans (congrArg some (by kernel_rfl))
  f190 := Tryz.func48.trans (congrArg some (by kernel_rfl))
  f258 := Tryz.func78.trans (congrArg some (by kernel_rfl))
  f302 := Tryz.func108.trans (congrArg some (by kernel_rfl))
  f303 := Tryz.func109.trans (congrArg some (by kernel_rfl))
  f304 := Tryz.func110.trans (congrArg some (by kernel_rfl))
  f305 := Tryz.func111.trans (congrArg some (by kernel_rfl))
  f306 := Tryz.func112.trans (congrArg some (by kernel_rfl))
  f307 := Tryz.func113.trans (congrArg some (by kernel_rfl))
  f308 := Tryz.func114.trans (congrArg some (by kernel_rfl))
  f309 := Tryz.func115.trans (congrArg some (by kernel_rfl))
  f310 := Tryz.func116.trans (congrArg some (by kernel_rfl))
  f329 := Tryz.func143.trans (congrArg some (by kernel_rfl))
  f330 := Tryz.func144.trans (congrArg some (by kernel_rfl))
  f333 := Tryz.func142.trans (congrArg some (by kernel_rfl))
  f334 := Tryz.func145.trans (congrArg some (by kernel_rfl))
  f335 := Tryz.func146.trans (congrArg some (by kernel_rfl))
  f336 := Tryz.func147.trans (congrArg some (by kernel_rfl))
  f344 := Tryz.func168.trans (congrArg some (by kernel_rfl))
  t0 := Tryz.underlying0
  a0 := Tryz.isAgg0
  z0 := Tryz.sizeOf0
  v0 := Tryz.zeroValue0
  t3 := Tryz.underlying3
  a3 := Tryz.isAgg3
  z3 := Tryz.sizeOf3
  v3 := Tryz.zeroValue3
  t4 := Tryz.underlying4
  a4 := Tryz.isAgg4
  z4 := Tryz.sizeOf4
  v4 := Tryz.zeroValue4
  t5 := Tryz.underlying5
  a5 := Tryz.isAgg5
  z5 := Tryz.sizeOf5
  v5 := Tryz.zeroValue5
  t9 := Tryz.underlying9
  a9 := Tryz.isAgg9
  z9 := Tryz.sizeOf9
  v9 := Tryz.zeroValue9
  t31 := Tryz.underlying47
  a31 := Tryz.isAgg47
  z31 := Tryz.sizeOf47
  v31 := Tryz.zeroValue47
  t46 := Tryz.underlying123
  a46 := Tryz.isAgg123
  z46 := Tryz.sizeOf123
  v46 := Tryz.zeroValue123
  t51 := Tryz.underlying152
  a51 := Tryz.isAgg152
  z51 := Tryz.sizeOf152
  v51 := Tryz.zeroValue152
  t53 := Tryz.underlying27
  a53 := Tryz.isAgg27
  z53 := Tryz.sizeOf27
  v53 := Tryz.zeroValue27
  t131 := Tryz.underlying112
  a131 := Tryz.isAgg112
  z131 := Tryz.sizeOf112
  v131 := Tryz.zeroValue112
  t182 := Tryz.underlying145
  a182 := Tryz.isAgg145
  z182 := Tryz.sizeOf145
  v182 := Tryz.zeroValue145
  t183 := Tryz.underlying146
  a183 := Tryz.isAgg146
  z183 := Tryz.sizeOf146
  v183 := Tryz.zeroValue146
  t218 := Tryz.underlying163
  a218 := Tryz.isAgg163
  z218 := Tryz.sizeOf163
  v218 := Tryz.zeroValue163
  t222 := Tryz.underlying166
  a222 := Tryz.isAgg166
  z222 := Tryz.sizeOf166
  v222 := Tryz.zeroValue166
  t228 := Tryz.underlying186
  a228 := Tryz.isAgg186
  z228 := Tryz.sizeOf186
  v228 := Tryz.zeroValue186
  t229 := Tryz.underlying187
  a229 := Tryz.isAgg187
  z229 := Tryz.sizeOf187
  v229 := Tryz.zeroValue187 }
open Go.Sort Go.RowKit in
theorem Tryz.slices_Sort_string (blk off cap : Nat) (ss : List (List UInt8)) (w : World) (hH : Holds encStr w blk off ss.toArray) (hblk : blk < w.heap.size) (hsz : ss.length < 4611686018427387904) :
    Calls Tryz.prog 48 #[.slice (some ⟨blk, off, none⟩) ss.length cap] w fun e w' =>
      e = .returned (.tuple #[]) ∧ ∃ n os, w' = grow (putRow encStr (Sort.ahead w n) blk off (ss.mergeSort fun x y => decide (x ≤ y)).toArray) os := Any.slices_Sort_string Tryz.lays190 blk off cap ss w hH hblk hsz
def Tryz.lays99_ren : Go.Shelf.Ren := ⟨fun | 99 => 47 | 206 => 77 | n => n, fun | 9 => 9 | 4 => 4 | 3 => 3 | n => n, fun | n => n⟩
theorem Tryz.lays99 : Go.Proofs.Lays.n99 Tryz.prog Tryz.lays99_ren := {
  mixed := by kernel_rfl
  f99 := Tryz.func47.trans (congrArg some (by kernel_rfl))
  f206 := Tryz.func77.trans (congrArg some (by kernel_rfl))
  t3 := Tryz.underlying3
  a3 := Tryz.isAgg3
  z3 := Tryz.sizeOf3
  v3 := Tryz.zeroValue3
  t4 := Tryz.underlying4
  a4 := Tryz.isAgg4
  z4 := Tryz.sizeOf4
  v4 := Tryz.zeroValue4
  t9 := Tryz.underlying9
  a9 := Tryz.isAgg9
  z9 := Tryz.sizeOf9
  v9 := Tryz.zeroValue9 }
open Go.RowKit Go.Lib in
theorem Tryz.strings_HasPrefix (s p : ByteArray) (w : World) :
    Calls Tryz.prog 47 #[.string s, .string p] w fun e w' => e = .returned (.bool (Lib.hasPrefix s.data.toList p.data.toList)) ∧ w' = w := Any.strings_HasPrefix Tryz.lays99 s p w
def Tryz.lays105_ren : Go.Shelf.Ren := ⟨fun | 105 => 165 | 212 => 180 | 99 => 47 | 165 => 181 | 166 => 182 | 170 => 183 | 169 => 184 | 263 => 192 | 264 => 193 | 206 => 77 | 240 => 194 | 241 => 195 | 276 => 205 | 277 => 206 | n => n, fun | 9 => 9 | 3 => 3 | 4 => 4 | 20 => 20 | 0 => 0 | 46 => 123 | 109 => 199 | 5 => 5 | 72 => 203 | 76 => 206 | 51 => 152 | 146 => 217 | 53 => 27 | 148 => 219 | 70 => 201 | 37 => 37 | 75 => 205 | 127 => 221 | 164 => 227 | 80 => 171 | n => n, fun | n => n⟩
theorem Tryz.lays105 : Go.Proofs.Lays.n105 Tryz.prog Tryz.lays105_ren := {
  mixed := by kernel_rfl
  f99 := Tryz.func47.trans (congrArg some (by kernel_rfl))
  f105 := Tryz.func165.trans (congrArg some (by kernel_rfl))
  f165 := Tryz.func181.trans (congrArg some (by kernel_rfl))
  f166 := Tryz.func182.trans (congrArg some (by kernel_rfl))
  f169 := Tryz.func184.trans (congrArg some (by kernel_rfl))
  f170 := Tryz.func183.trans (congrArg some (by kernel_rfl))
  f206 := Tryz.func77.trans (congrArg some (by kernel_rfl))
  f212 := Tryz.func180.trans (congrArg some (by kernel_rfl))
  f240 := Tryz.func194.trans (congrArg some (by kernel_rfl))
  f241 := Tryz.func195.trans (congrArg some (by kernel_rfl))
  f263 := Tryz.func192.trans (congrArg some (by kernel_rfl))
  f264 := Tryz.func193.trans (congrArg some (by kernel_rfl))
  f276 := Tryz.func205.trans (congrArg some (by kernel_rfl))
  f277 := Tryz.func206.trans (congrArg some (by kernel_rfl))
  t0 := Tryz.underlying0
  a0 := Tryz.isAgg0
  z0 := Tryz.sizeOf0
  v0 := Tryz.zeroValue0
  t3 := Tryz.underlying3
  a3 := Tryz.isAgg3
  z3 := Tryz.sizeOf3
  v3 := Tryz.zeroValue3
  t4 := Tryz.underlying4
  a4 := Tryz.isAgg4
  z4 := Tryz.sizeOf4
  v4 := Tryz.zeroValue4
  t5 := Tryz.underlying5
  a5 := Tryz.isAgg5
  z5 := Tryz.sizeOf5
  v5 := Tryz.zeroValue5
  t9 := Tryz.underlying9
  a9 := Tryz.isAgg9
  z9 := Tryz.sizeOf9
  v9 := Tryz.zeroValue9
  t20 := Tryz.underlying20
  a20 := Tryz.isAgg20
  z20 := Tryz.sizeOf20
  v20 := Tryz.zeroValue20
  t37 := Tryz.underlying37
  a37 := Tryz.isAgg37
  z37 := Tryz.sizeOf37
  v37 := Tryz.zeroValue37
  t46 := Tryz.underlying123
  a46 := Tryz.isAgg123
  z46 := Tryz.sizeOf123
  v46 := Tryz.zeroValue123
  t51 := Tryz.underlying152
  a51 := Tryz.isAgg152
  z51 := Tryz.sizeOf152
  v51 := Tryz.zeroValue152
  t53 := Tryz.underlying27
  a53 := Tryz.isAgg27
  z53 := Tryz.sizeOf27
  v53 := Tryz.zeroValue27
  t70 := Tryz.underlying201
  a70 := Tryz.isAgg201
  z70 := Tryz.sizeOf201
  v70 := Tryz.zeroValue201
  t72 := Tryz.underlying203
  a72 := Tryz.isAgg203
  z72 := Tryz.sizeOf203
  v72 := Tryz.zeroValue203
  t75 := Tryz.underlying205
  a75 := Tryz.isAgg205
  z75 := Tryz.sizeOf205
  v75 := Tryz.zeroValue205
  t76 := Tryz.underlying206
  a76 := Tryz.isAgg206
  z76 := Tryz.sizeOf206
  v76 := Tryz.zeroValue206
  t109 := Tryz.underlying199
  a109 := Tryz.isAgg199
  z109 := Tryz.sizeOf199
  v109 := Tryz.zeroValue199
  t127 := Tryz.underlying221
  a127 := Tryz.isAgg221
  z127 := Tryz.sizeOf221
  v127 := Tryz.zeroValue221
  t146 := Tryz.underlying217
  a146 := Tryz.isAgg217
  z146 := Tryz.sizeOf217
  v146 := Tryz.zeroValue217
  t148 := Tryz.underlying219
  a148 := Tryz.isAgg219
  z148 := Tryz.sizeOf219
  v148 := Tryz.zeroValue219
  t164 := Tryz.underlying227
  a164 := Tryz.isAgg227
  z164 := Tryz.sizeOf227
  v164 := Tryz.zeroValue227 }
theorem Tryz.Builder_Extra_105 : Builder.Extra Tryz.prog Tryz.lays105_ren := {
  sizeBuilder := by kernel_rfl
  liesBuilder := by kernel_rfl
  t5 := Tryz.underlying5
  a5 := Tryz.isAgg5
  z5 := Tryz.sizeOf5
  v5 := Tryz.zeroValue5
  infoByte := by kernel_rfl
  cellsByte := by kernel_rfl
  sizeByte := by kernel_rfl
  neB5 := by decide }
open Go.RowKit Go.Lib in
theorem Tryz.strings_Repeat (s : ByteArray) (c : Nat) (w : World) (hc : c ≤ 9223372036854775807) (hlen : s.size * c ≤ 140737488355328) :
    Calls Tryz.prog 165 #[.string s, .int .i64 c] w fun e w' => e = .returned (.string ⟨(Lib.repeatL s.data.toList c).toArray⟩) ∧ Below w.heap.size w w' := Any.strings_Repeat Tryz.lays105 Tryz.Builder_Extra_105 s c w hc hlen
def Tryz.laysNm225_ren : Go.Shelf.Ren := ⟨fun | 25 => 171 | 31 => 188 | 32 => 189 | 37 => 199 | n => n, fun | 22 => 44 | 3 => 3 | 4 => 4 | 40 => 123 | 0 => 0 | n => n, fun | n => n⟩
theorem Tryz.laysNm225 : Go.Proofs.Lays2.n25 Tryz.prog Tryz.laysNm225_ren := {
  mixed := by kernel_rfl
  f25 := Tryz.func171.trans (congrArg some (by kernel_rfl))
  f31 := Tryz.func188.trans (congrArg some (by kernel_rfl))
  f32 := Tryz.func189.trans (congrArg some (by kernel_rfl))
  f37 := Tryz.func199.trans (congrArg some (by kernel_rfl))
  t0 := Tryz.underlying0
  a0 := Tryz.isAgg0
  z0 := Tryz.sizeOf0
  v0 := Tryz.zeroValue0
  t3 := Tryz.underlying3
  a3 := Tryz.isAgg3
  z3 := Tryz.sizeOf3
  v3 := Tryz.zeroValue3
  t4 := Tryz.underlying4
  a4 := Tryz.isAgg4
  z4 := Tryz.sizeOf4
  v4 := Tryz.zeroValue4
  t22 := Tryz.underlying44
  a22 := Tryz.isAgg44
  z22 := Tryz.sizeOf44
  v22 := Tryz.zeroValue44
  t40 := Tryz.underlying123
  a40 := Tryz.isAgg123
  z40 := Tryz.sizeOf123
  v40 := Tryz.zeroValue123 }
open Go.RowKit Go.Lib in
theorem Tryz.slices_BinarySearch_int (b off n c : Nat) (zs : List Int) (x : Int) (w : World) (hz : n ≤ zs.length) (hbig : n < 4611686018427387904) (hc : ∀ j, j < zs.length → w.cell? ⟨b, off + j, none⟩ = some (.int .i64 (zs.getD j 0))) (hs : (zs.take n).Pairwise (· ≤ ·)) :
    Calls Tryz.prog 171 #[.slice (some ⟨b, off, none⟩) n c, .int .i64 x] w fun e w' => e = .returned (.tuple #[.int .i64 ((zs.take n).countP (· < x) : Nat), .bool ((zs.take n).contains x)]) ∧ ∃ q, w' = w.drewN q := Any.slices_BinarySearch_int Tryz.laysNm225 b off n c zs x w hz hbig hc hs
open Go.RowKit Go.Sort in
theorem Tryz.slices_Sort_string_none (p : Option Addr) (cap : Nat) (w : World) :
    Calls Tryz.prog 48 #[.slice p 0 cap] w fun e w' => e = .returned (.tuple #[]) ∧ w' = w := Any.slices_Sort_string_none Tryz.lays190 p cap w
end Go.Proofs.YtgpgkpciajajcaaGreatDoor

/- Package disk: List of any disk. -/
namespace Go.Proofs.YtgpgkpciajajcaaGreatDoor
open Go.RowKit Go.Maps
set_option linter.unusedVariables false
set_option maxRecDepth 20000

/-- Texts in order. -/
def srt (l : List ByteArray) : List ByteArray := ((l.map fun s => s.data.toList).mergeSort fun x y => decide (x ≤ y)).map fun b => ⟨b.toArray⟩
theorem strE_flat (l : List ByteArray) : strE.flat l = (l.map fun s => s.data.toList).map Go.Proofs.encStr := by
  induction l with
  | nil => rfl
  | cons s l ih =>
    have h : strE.flat (s :: l) = .string s :: strE.flat l := rfl
    rw [h, ih]
    rfl
theorem srt_flat (l : List ByteArray) : strE.flat (srt l) = ((l.map fun s => s.data.toList).mergeSort fun x y => decide (x ≤ y)).map Go.Proofs.encStr := by
  rw [strE_flat]
  unfold srt
  rw [List.map_map, List.map_map]
  rfl
theorem srt_len (l : List ByteArray) : (srt l).length = l.length := by
  unfold srt
  simp
theorem srt_mem (l : List ByteArray) (s : ByteArray) : s ∈ srt l ↔ s ∈ l := by
  unfold srt
  rw [List.mem_map]
  constructor
  · rintro ⟨b, hb, rfl⟩
    rw [List.mem_mergeSort, List.mem_map] at hb
    obtain ⟨t, ht, rfl⟩ := hb
    simpa using ht
  · intro h
    exact ⟨s.data.toList, by rw [List.mem_mergeSort]; exact List.mem_map.2 ⟨s, h, rfl⟩, by simp⟩
theorem d_sortAny (base n : Nat) (v : Value) (l : List ByteArray) (w : World) (h : SOwn strE 9 w base v n l) (hn : n < 4611686018427387904) :
    Calls Tryz.prog 48 #[v] w fun e w' => e = .returned (.tuple #[]) ∧ SOwn strE 9 w' base v n (srt l) ∧ w.grownBy w' v.ownBlock := by
  have hl := h.len
  unfold SOwn at h
  rw [strE_flat] at h
  rcases id h.2 with ⟨rfl, h0⟩ | ⟨g, cap, cur, rfl, hbase, hb, h1, h2, h3, h4⟩
  · subst h0
    obtain rfl : l = [] := List.eq_nil_of_length_eq_zero hl
    refine (Tryz.slices_Sort_string_none none 0 w).mono ?_
    rintro e w' ⟨rfl, rfl⟩
    refine ⟨rfl, ?_, World.grownBy.refl _ _⟩
    rw [show srt [] = [] from List.eq_nil_of_length_eq_zero (srt_len [])]
    exact SOwn.nil 9 _ _
  · subst hl
    have hH := holds_of_block (ss := l.map fun s => s.data.toList) hb (by rw [List.length_map]; rw [show l.length * strE.size = l.length from Nat.mul_one _] at h4; exact h4)
    have := Tryz.slices_Sort_string g 0 cap (l.map fun s => s.data.toList) w hH (Array.getElem?_eq_some_iff.1 hb).1 (by simpa using hn)
    rw [List.length_map] at this
    refine this.mono ?_
    rintro e w' ⟨rfl, k, os, rfl⟩
    refine ⟨rfl, ?_, grownBy_sorted _⟩
    unfold SOwn
    rw [srt_flat]
    have h5 := ownsRow_sorted (n := k) (os := os) (ss := l.map fun s => s.data.toList) (ts := (l.map fun s => s.data.toList).mergeSort fun x y => decide (x ≤ y)) (by simp) hbase hb (by simpa using h1) h2 h3
    rw [List.length_map] at h5
    exact h5
theorem d_prefix (s p : ByteArray) (w : World) : Calls Tryz.prog 47 #[.string s, .string p] w fun e w' => e = .returned (.bool (Lib.hasPrefix s.data.toList p.data.toList)) ∧ w = w' := by
  refine (Tryz.strings_HasPrefix s p w).mono ?_
  rintro e w' ⟨h1, h2⟩
  exact ⟨h1, h2.symm⟩
/-- What List has gathered when the names outside left are seen. -/
structure Seen (D : DataW Unit) (left : Lit → Bool) (cnt : Nat) (p : ByteArray) (l : List ByteArray) : Prop where
  mem : ∀ s, s ∈ l ↔ Maps.has D (kn s) = true ∧ left (kn s) = false ∧ Lib.hasPrefix s.data.toList p.data.toList = true
  nodup : l.Nodup
  count : l.length + cnt ≤ Maps.size D
theorem Seen.step {D : DataW Unit} {left : Lit → Bool} {cnt cnt' : Nat} {p x : ByteArray} {l : List ByteArray} (h : Seen D left cnt p l) (hx : Maps.has D (kn x) = true) (hlx : left (kn x) = true) (hc : cnt' < cnt) :
    Seen D (fun z => left z && !z.sameKey (kn x)) cnt' p (if Lib.hasPrefix x.data.toList p.data.toList = true then l ++ [x] else l) := by
  have hsk : (kn x).sameKey (kn x) = true := by simp [Lit.sameKey]
  have hns : ∀ s, s ≠ x → (left (kn s) && !(kn s).sameKey (kn x)) = left (kn s) := fun s e => by rw [sameKey_ne (kn_ne e)]; simp
  have hxl : x ∉ l := fun e => by have := ((h.mem x).1 e).2.1; rw [hlx] at this; cases this
  refine ⟨fun s => ?_, ?_, ?_⟩
  · by_cases e : s = x
    · subst e
      show _ ↔ _ ∧ (left (kn s) && !(kn s).sameKey (kn s)) = false ∧ _
      rw [hsk]
      by_cases hp : Lib.hasPrefix s.data.toList p.data.toList = true
      · rw [if_pos hp]; simp [hx, hp]
      · rw [if_neg hp]; simp [hp, hxl]
    · show _ ↔ _ ∧ (left (kn s) && !(kn s).sameKey (kn x)) = false ∧ _
      rw [hns s e]
      split
      · rw [List.mem_append, h.mem s]; simp [e]
      · exact h.mem s
  · split
    · rw [List.nodup_append]
      exact ⟨h.nodup, by simp, fun a ha b hb e => by simp at hb; subst hb; subst e; exact hxl ha⟩
    · exact h.nodup
  · have := h.count
    split
    · rw [List.length_append]; simp; omega
    · omega
set_option maxHeartbeats 4000000 in
theorem v_list (base d mb n : Nat) (set : Bool) (ah kp wn : Int) (V : Cont) (B : Nat → Prop) (p : ByteArray) (w : World) (h : DV w base d mb n false set ah kp wn V B) (hn : n ≤ 4194304) :
    Calls Tryz.prog 24 #[.pointer (some ⟨d, 0, none⟩), .string p] w fun e w' => ∃ a c l, e = .returned (.slice a l.length c) ∧ SOwn strE 9 w' w.heap.size (.slice a l.length c) l.length (srt l) ∧ w.grownBy w' none ∧ l.Nodup ∧ l.length ≤ n ∧ ∀ s, s ∈ l ↔ (V s).isSome = true ∧ Lib.hasPrefix s.data.toList p.data.toList = true := by
  obtain ⟨F, G, hd, hv, hB⟩ := h
  obtain ⟨c0, c1, c2, c3, c4, c5⟩ := hd.row.cells
  obtain ⟨D, hm, hda, hdh, hdi⟩ := hd.map
  have HM : Hid (w.ownsMap Tryz.prog 9 ptrE mb n D) := hm
  have HMB : Hid (mb < w.heap.size) := hd.map.lt
  have HSZ : Hid (Maps.size D ≤ n) := hm.size_le
  have HDV : Hid (∀ s, Maps.has D (kn s) = true ↔ (V s).isSome = true) := by
    intro s
    have e1 : (V s).isSome = (F s).isSome := by rw [hv s]; cases F s <;> rfl
    rw [e1]
    constructor
    · intro hs
      obtain ⟨t, e, ht⟩ := hdh _ hs
      obtain rfl := kn_inj e
      exact ht
    · exact hdi s
  clear hd hv hB hm hda hdh hdi c2 c3 c4 c5
  go_enter Tryz.func24, Tryz.ntmps24
  go_wp2_with (first
    | (at_range; refine wpList_range_own _ rfl _ 60 rfl 9 114 law9 Tryz.underlying60 _ mb n _ rfl HM.out ?_; intro w0 hrg0 hg0 hs0)
    | go_in)
  go_frame
  have HRG0 : Hid (w0.ranges Tryz.prog 9 ptrE mb w.heap.size n D (Maps.has D) (Maps.size D)) := hrg0
  have HG0 : Hid (w.grownBy w0 none) := hg0
  have HS0 : Hid (w0.heap.size = w.heap.size + 1) := hs0
  clear hrg0 hg0 hs0
  go_loopw [5] (fun v wr' => ∃ (left : Lit → Bool) (cnt : Nat) (l : List ByteArray), wr'.ranges Tryz.prog 9 ptrE mb w.heap.size n D left cnt ∧ Seen D left cnt p l ∧ SOwn strE 9 wr' (w.heap.size + 1) v l.length l ∧ w.grownBy wr' none)
    (fun _ wr' => wr'.rangeLeft mb w.heap.size)
  case atStart =>
    refine ⟨_, _, [], HRG0.out, ⟨fun s => ?_, List.nodup_nil, by simp⟩, SOwn.nil 9 _ _, HG0.out⟩
    constructor
    · intro hs; cases hs
    · rintro ⟨h1, h2, _⟩; rw [h1] at h2; cases h2
  case round =>
    obtain ⟨left, cnt, l, hrg, hse, hso, hgw⟩ := hrel
    obtain ⟨L, eL⟩ : ∃ L, L = l.length := ⟨_, rfl⟩
    rw [← eL] at hso
    obtain ⟨a5, k5, rfl⟩ := sown_sliceT hso
    have EL : Hid (L = l.length) := eL
    have HRG : Hid (wr.ranges Tryz.prog 9 ptrE mb w.heap.size n D left cnt) := hrg
    have HSE : Hid (Seen D left cnt p l) := hse
    have HSO : Hid (SOwn strE 9 wr (w.heap.size + 1) (.slice a5 L k5) L l) := hso
    have HGW : Hid (w.grownBy wr none) := hgw
    have hLn : L + cnt ≤ 4194304 := by have h1 := hse.count; have h2 := HSZ.out; omega
    have HLW : Hid (w.heap.size + 1 ≤ wr.heap.size) := by have h1 := hrg.lt; exact h1
    clear hrg hse hso hgw HRG0 HG0 eL
    go_wp2_with (first
      | (at_next; refine wpList_next_ranges _ rfl _ rfl 9 law9 ptrE Value.string ptrV (fun key kl hkey => by obtain ⟨x, hx, _⟩ := str_inv hkey; exact ⟨x, hx⟩) (fun v y hv => by obtain ⟨o, ho, _⟩ := ptr_inv hv; exact ⟨o, ho⟩) mb w.heap.size n _ _ _ rfl HRG.out ?_ ?_)
      | go_in)
    · intro _ hl0
      go_wp2_with fail
      refine (d_sortAny (w.heap.size + 1) L _ l wr HSO.out (by omega)).mono ?_
      rintro e w4 ⟨rfl, ho4, hg4⟩
      have HO4 : Hid (SOwn strE 9 w4 (w.heap.size + 1) (.slice a5 L k5) L (srt l)) := ho4
      have HG4 : Hid (w.grownBy w4 none) := gb_trans HGW.out hg4 (fun k hk => .inl (by have := (SOwn.block HSO.out k hk).1; omega))
      clear ho4 hg4
      go_wp2
      go_ret
      refine ⟨a5, k5, l, by rw [← EL.out]; rfl, by rw [← EL.out]; exact SOwn.base HO4.out (Nat.le_succ _), HG4.out, HSE.out.nodup, by have h1 := HSE.out.count; have h2 := HSZ.out; omega, fun s => ?_⟩
      rw [HSE.out.mem s, HDV.out s]
      simp [hl0]
    · intro x o kl yd yp w1 cnt1 hkey hlk hv hat hrg1 hlt hg1 hs1 hen
      obtain ⟨x', ex, rfl, _⟩ := str_inv hkey
      cases ex
      have hhas : Maps.has D (kn x) = true := has_true_of_atKey hat
      have HSE1 : Hid (Seen D (fun z => left z && !z.sameKey (kn x)) cnt1 p (if Lib.hasPrefix x.data.toList p.data.toList = true then l ++ [x] else l)) := HSE.out.step hhas hlk hlt
      have HRG1 : Hid (w1.ranges Tryz.prog 9 ptrE mb w.heap.size n D (fun z => left z && !z.sameKey (kn x)) cnt1) := hrg1
      have HG1 : Hid (w.grownBy w1 none) := gb_trans HGW.out hg1 (fun k hk => .inl (by cases hk; exact Nat.le_refl _))
      have HSO1 : Hid (SOwn strE 9 w1 (w.heap.size + 1) (.slice a5 L k5) L l) := SOwn.kept HSO.out hg1 (.inr (fun e => by have := (SOwn.block HSO.out _ e).1; omega))
      have HLT1 : Hid (cnt1 < cnt) := hlt
      have HLW1 : Hid (w.heap.size + 1 ≤ w1.heap.size) := by show _ ≤ _; rw [hs1]; exact HLW.out
      have hen' : (Instr.entry (.pointer (some ⟨w.heap.size, 0, none⟩))).run Tryz.prog w1 = .ok (.tuple #[.string x, ptrV o]) w1 := hen
      clear hkey hlk hv hat hrg1 hlt hg1 hs1 hen hhas HSE HSO HGW HLW
      go_wp2_with fail
      refine (d_prefix x p w1).mono ?_
      rintro e w2 ⟨rfl, rfl⟩
      by_cases hp : Lib.hasPrefix x.data.toList p.data.toList = true
      · rw [hp]
        rw [if_pos hp] at HSE1
        go_wp2_with (at_builtin; refine wpList_append_s strET rfl (.tmp 23) (.tmp 25) rfl (w.heap.size + 1) (.slice a5 L k5) L l rfl (SOwn.kept HSO1.out (World.grownBy_alloc w1 _ none) (by cases a5 <;> simp [Value.ownBlock])) (some ⟨w1.heap.size, 0, none⟩) [x] 1 1 rfl rfl (slit w1 [x]) (by simp) (by omega) (by unfold maxLen; omega) (Nat.le_of_lt (by rw [show ((w1.alloc (.cells #[.string x] 9)).heap.size) = w1.heap.size + 1 from Array.size_push _]; have := HLW1.out; omega)) ?_; intro v3 w3 ho3 hg3 hn3)
        have HO3 : Hid (SOwn strE 9 w3 (w.heap.size + 1) v3 (L + 1) (l ++ [x])) := ho3
        have HG13 : Hid (w1.grownBy w3 (Value.ownBlock (.slice a5 L k5))) := (gb_any (World.grownBy_alloc w1 _ none) _).trans hg3
        clear ho3 hg3 hn3
        have hrg3 := HRG1.out.kept HG13.out (row_ne_low HSO1.out (Nat.lt_succ_of_lt HMB.out)) (row_ne_low HSO1.out (Nat.lt_succ_self _))
        have hg3 : w.grownBy w3 none := gb_trans HG1.out HG13.out (fun k hk => .inl (by have := (SOwn.block HSO1.out k hk).1; omega))
        refine ⟨⟨_, cnt1, l ++ [x], hrg3, HSE1.out, ?_, hg3⟩, ?_⟩
        · rw [List.length_append, ← EL.out]
          exact HO3.out
        · rw [HRG.out.left_eq, hrg3.left_eq]
          exact HLT1.out
      · have hpf : Lib.hasPrefix x.data.toList p.data.toList = false := by simpa using hp
        rw [hpf]
        rw [if_neg hp] at HSE1
        go_wp2
        refine ⟨⟨_, cnt1, l, HRG1.out, HSE1.out, ?_, HG1.out⟩, ?_⟩
        · rw [← EL.out]
          exact HSO1.out
        · rw [HRG.out.left_eq, HRG1.out.left_eq]
          exact HLT1.out
end Go.Proofs.YtgpgkpciajajcaaGreatDoor

/- Texts in order: what a sorted list of names is by its members. -/
namespace Go.Proofs.YtgpgkpciajajcaaGreatDoor
open Go.RowKit Go.Maps
set_option linter.unusedVariables false

theorem u8_le_trans (a b c : List UInt8) : decide (a ≤ b) = true → decide (b ≤ c) = true → decide (a ≤ c) = true := by
  simp only [decide_eq_true_eq]
  exact List.le_trans
theorem u8_le_total (a b : List UInt8) : (decide (a ≤ b) || decide (b ≤ a)) = true := by
  simp only [Bool.or_eq_true, decide_eq_true_eq]
  exact List.le_total a b
theorem srt_pair (l : List ByteArray) : (srt l).Pairwise fun x y => x.data.toList ≤ y.data.toList := by
  unfold srt
  rw [List.pairwise_map]
  have h := List.pairwise_mergeSort (le := fun x y : List UInt8 => decide (x ≤ y)) u8_le_trans u8_le_total (l.map fun s => s.data.toList)
  exact h.imp (fun hab => by simpa using hab)
theorem ba_ext {x y : ByteArray} (h : x.data.toList = y.data.toList) : x = y := by
  cases x; cases y; congr 1; exact Array.toList_inj.1 h
theorem srt_perm (l : List ByteArray) : (srt l).Perm l := by
  unfold srt
  have h := (List.mergeSort_perm (l.map fun s => s.data.toList) fun x y => decide (x ≤ y)).map fun b => (⟨b.toArray⟩ : ByteArray)
  rw [List.map_map] at h
  have e : (fun s => (⟨s.data.toList.toArray⟩ : ByteArray)) = (id : ByteArray → ByteArray) := by funext s; rfl
  refine h.trans ?_
  have e2 : ((fun b => (⟨b.toArray⟩ : ByteArray)) ∘ fun s : ByteArray => s.data.toList) = id := e
  rw [e2, List.map_id]
/-- A list of texts in order is told by its members. -/
theorem srt_eq {l l' : List ByteArray} (h : l.Nodup) (h' : l'.Nodup) (hm : ∀ s, s ∈ l ↔ s ∈ l') : srt l = srt l' := by
  have hp : l.Perm l' := (List.perm_ext_iff_of_nodup h h').2 hm
  refine List.Perm.eq_of_pairwise (le := fun x y : ByteArray => x.data.toList ≤ y.data.toList) ?_ (srt_pair l) (srt_pair l') (((srt_perm l).trans hp).trans (srt_perm l').symm)
  intro a b _ _ h1 h2
  exact ba_ext (List.le_antisymm h1 h2)
/-- A list that is in order already. -/
theorem srt_self {l : List ByteArray} (h : l.Pairwise fun x y => x.data.toList ≤ y.data.toList) : srt l = l := by
  refine List.Perm.eq_of_pairwise (le := fun x y : ByteArray => x.data.toList ≤ y.data.toList) ?_ (srt_pair l) h (srt_perm l)
  intro a b _ _ h1 h2
  exact ba_ext (List.le_antisymm h1 h2)
theorem srt_nodup {l : List ByteArray} (h : l.Nodup) : (srt l).Nodup := (srt_perm l).nodup_iff.2 h
end Go.Proofs.YtgpgkpciajajcaaGreatDoor

