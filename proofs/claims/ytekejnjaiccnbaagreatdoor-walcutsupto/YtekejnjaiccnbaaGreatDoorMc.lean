/- Several texts in one: Dk4, Dk5, Dk6. -/
import Derived.Test.YtekejnjaiccnbaaGreatDoorMb
import Derived.Maps.RangeWalk
/- Package disk: a whole disk; the power goes. -/
namespace Go.Proofs.YtekejnjaiccnbaaGreatDoor
open Go.RowKit Go.Maps
set_option linter.unusedVariables false
set_option maxRecDepth 20000

/-- Whatever lies in a block that is not among X has stayed. -/
structure Kept (w w' : World) (X : Nat → Prop) : Prop where
  os : w'.os = w.os
  tape : w'.tape = w.tape
  output : w'.output = w.output
  size : w.heap.size ≤ w'.heap.size
  block : ∀ k, k < w.heap.size → ¬ X k → w'.heap[k]? = w.heap[k]?
theorem Kept.refl (w : World) (X : Nat → Prop) : Kept w w X := ⟨rfl, rfl, rfl, Nat.le_refl _, fun _ _ _ => rfl⟩
theorem Kept.of {w w' : World} {row : Option Nat} {X : Nat → Prop} (h : w.grownBy w' row) (hr : ∀ k, row = some k → X k) : Kept w w' X :=
  ⟨h.os, h.tape, h.output, h.size, fun k hk hx => h.block k hk (fun e => hx (hr k e.symm))⟩
theorem Kept.trans {w w1 w2 : World} {X Y : Nat → Prop} (h : Kept w w1 X) (h' : Kept w1 w2 Y) (hY : ∀ k, k < w.heap.size → Y k → X k) : Kept w w2 X :=
  ⟨h'.os.trans h.os, h'.tape.trans h.tape, h'.output.trans h.output, Nat.le_trans h.size h'.size, fun k hk hx => (h'.block k (Nat.lt_of_lt_of_le hk h.size) (fun y => hx (hY k hk y))).trans (h.block k hk hx)⟩
theorem Kept.mono {w w1 : World} {X Y : Nat → Prop} (h : Kept w w1 X) (hY : ∀ k, k < w.heap.size → X k → Y k) : Kept w w1 Y :=
  ⟨h.os, h.tape, h.output, h.size, fun k hk hx => h.block k hk (fun x => hx (hY k hk x))⟩
theorem Kept.grown {w w' : World} {X : Nat → Prop} (h : Kept w w' X) (hX : ∀ k, k < w.heap.size → ¬ X k) : w.grownBy w' none :=
  ⟨h.os, h.tape, h.output, h.size, fun k hk _ => h.block k hk (hX k hk)⟩
/-- What a file holds. -/
structure FD where
  a : Option Addr
  c : Nat
  zs : List Int
  syn : Nat
def cutD (keep : Int) (f : FD) : FD := ⟨f.a, f.c, f.zs.take (f.syn + keptN keep (f.zs.length - f.syn)), f.syn + keptN keep (f.zs.length - f.syn)⟩
def FIs (w : World) (base b : Nat) (f : FD) : Prop := FileIs w base b f.a f.c f.zs f.syn
/-- A disk in block d, its map in block mb; F: where a name's file lies; G: what lies there. -/
structure DiskIs (w : World) (base d mb n : Nat) (off set : Bool) (ah kp wr : Int) (F : ByteArray → Option Nat) (G : Nat → FD) : Prop where
  row : DRow w d mb off set ah kp wr
  map : MapIs w mb n F
  file : ∀ s b, F s = some b → FIs w base b (G b) ∧ base ≤ b
  inj : ∀ s t b, F s = some b → F t = some b → s = t
  apart : ∀ s t b b', F s = some b → F t = some b' → b ≠ b' → ∀ x y, (G b).a = some x → (G b').a = some y → x.block ≠ y.block
  hd : base ≤ d
  hmb : base ≤ mb
/-- The disk's own blocks that a call which writes no bytes may write. -/
def Own0 (d mb : Nat) (F : ByteArray → Option Nat) (k : Nat) : Prop := k = d ∨ k = mb ∨ ∃ s, F s = some k
theorem row_ne {w : World} {b b' : Nat} {t t' : TypeId} {n n' : Nat} {f f' : Nat → Value} (h : w.rowIs b t n f) (h' : w.rowIs b' t' n' f') (ht : t ≠ t') : b ≠ b' := by
  rintro rfl
  obtain ⟨c, h1, _⟩ := h
  obtain ⟨c', h2, _⟩ := h'
  rw [h1] at h2
  simp only [Option.some.injEq, Obj.cells.injEq] at h2
  exact ht h2.2.1
theorem map_ne {w : World} {b mb n : Nat} {t : TypeId} {m : Nat} {f : Nat → Value} {F : ByteArray → Option Nat} (h : w.rowIs b t m f) (hm : MapIs w mb n F) : b ≠ mb := by
  rintro rfl
  obtain ⟨c, h1, _⟩ := h
  obtain ⟨D, ⟨es, clock, h2, _⟩, _⟩ := hm
  rw [h1] at h2
  cases h2
theorem own_ne {w : World} {base b k c : Nat} {t : TypeId} {m : Nat} {f : Nat → Value} {x : Addr} {zs : List Int} (h : w.rowIs b t m f) (ho : SOwn byteE 5 w base (.slice (some x) k c) k zs) (ht : t ≠ 5) : x.block ≠ b := by
  rintro rfl
  obtain ⟨cc, h1, _⟩ := h
  rcases ho.2 with ⟨h', _⟩ | ⟨g, cap, cur', h', _, h2, _⟩
  · simp at h'
  · simp only [Value.slice.injEq, Option.some.injEq] at h'
    obtain ⟨rfl, _⟩ := h'
    simp only at h1
    rw [h1] at h2
    simp only [Option.some.injEq, Obj.cells.injEq] at h2
    exact ht h2.2.1
theorem own_map {w : World} {base mb n k c : Nat} {x : Addr} {zs : List Int} {F : ByteArray → Option Nat} (hm : MapIs w mb n F) (ho : SOwn byteE 5 w base (.slice (some x) k c) k zs) : x.block ≠ mb := by
  rintro rfl
  obtain ⟨D, ⟨es, clock, h1, _⟩, _⟩ := hm
  rcases ho.2 with ⟨h', _⟩ | ⟨g, cap, cur', h', _, h2, _⟩
  · simp at h'
  · simp only [Value.slice.injEq, Option.some.injEq] at h'
    obtain ⟨rfl, _⟩ := h'
    simp only at h1
    rw [h1] at h2
    cases h2
/-- A file, where its two blocks have stayed. -/
theorem FIs.stay {w w' : World} {base b : Nat} {f : FD} (h : FIs w base b f) (h1 : w'.heap[b]? = w.heap[b]?) (h2 : ∀ x, f.a = some x → w'.heap[x.block]? = w.heap[x.block]?) : FIs w' base b f := by
  refine ⟨FileIs.row h |>.of_block h1, ?_, FileIs.byte h, FileIs.syn h, FileIs.len h⟩
  have ho := FileIs.own h
  refine ⟨ho.1, ?_⟩
  rcases ho.2 with h' | ⟨g, cap, cur, h', h3, h4, h5⟩
  · exact .inl h'
  · refine .inr ⟨g, cap, cur, h', h3, ?_, h5⟩
    have hx : f.a = some ⟨g, 0, none⟩ := by simp only [Value.slice.injEq] at h'; exact h'.1
    have := h2 _ hx
    simp only at this
    rw [this, h4]
theorem FIs.drew {w : World} {base b : Nat} {f : FD} (h : FIs w base b f) : FIs w.drew base b f := FileIs.drew h
theorem str_inv {key : Value} {kl : Lit} (h : keyOf Tryz.prog 9 key = some kl) : ∃ s, key = .string s ∧ kl = kn s ∧ s.size ≤ maxLen := by
  obtain ⟨s, h1, h2, h3⟩ := Go.WideMaps.string_of_keyOf Tryz.underlying9 h
  exact ⟨s, h1, h2, h3⟩
theorem ptr_inv {v : Value} {y : DataW Unit × List MemPlace} (h : ptrE v = some y) : ∃ o, v = ptrV o ∧ y = (ptrD o, []) := by
  unfold ptrE at h
  split at h
  · rename_i b; cases h; exact ⟨some b, rfl, rfl⟩
  · cases h; exact ⟨none, rfl, rfl⟩
  · cases h
theorem drow_off {w : World} {d mb : Nat} {off set : Bool} {ah kp wr : Int} (h : DRow w d mb off set ah kp wr) (b : Bool) : DRow (w.setCell ⟨d, 1, none⟩ (.bool b)) d mb b set ah kp wr := (h.set 1 (.bool b)).congr (six rfl rfl rfl rfl rfl rfl)
set_option maxHeartbeats 4000000 in
theorem d_cut (base d mb n : Nat) (off set : Bool) (ah kp wn keep : Int) (F : ByteArray → Option Nat) (G : Nat → FD) (w : World) (h : DiskIs w base d mb n off set ah kp wn F G) (hk : -9223372036854775808 ≤ keep ∧ keep ≤ 9223372036854775807) :
    Calls Tryz.prog 55 #[.pointer (some ⟨d, 0, none⟩), .int .i64 keep] w fun e w' => e = .returned (.tuple #[]) ∧ DiskIs w' base d mb n true set ah kp wn F (fun b => cutD keep (G b)) ∧ Kept w w' (Own0 d mb F) := by
  obtain ⟨c0, c1, c2, c3, c4, c5⟩ := h.row.cells
  obtain ⟨D, hm, hda, hdh, hdi⟩ := h.map
  have H : Hid (DiskIs w base d mb n off set ah kp wn F G) := h
  have HDA : Hid (∀ s : ByteArray, D.atKey (kn s) (ptrD none) = ptrD (F s)) := hda
  have HDH : Hid (∀ kl, Maps.has D kl = true → ∃ s, kl = kn s ∧ (F s).isSome = true) := hdh
  have HDI : Hid (∀ s, (F s).isSome = true → Maps.has D (kn s) = true) := hdi
  have HM : Hid (w.ownsMap Tryz.prog 9 ptrE mb n D) := hm
  have HL : Hid (∀ (b : Nat) (f : FD) (w1 : World), FIs w1 base b f → Calls Tryz.prog 98 #[.pointer (some ⟨b, 0, none⟩), .int .i64 keep] w1 fun e w' => e = .returned (.tuple #[]) ∧ FIs w' base b (cutD keep f) ∧ w1.grownBy w' (some b)) := fun b f w1 hf => d_lose base b f.a f.c f.zs f.syn keep w1 hf hk
  have HLT : Hid (∀ s b, F s = some b → b < w.heap.size ∧ b ≠ d ∧ b ≠ mb) := fun s b hs => ⟨(FileIs.row (h.file s b hs).1).lt, row_ne (FileIs.row (h.file s b hs).1) h.row (by decide), map_ne (FileIs.row (h.file s b hs).1) h.map⟩
  have HDM : Hid (d ≠ mb) := map_ne h.row h.map
  have HINJ : Hid (∀ s t b, F s = some b → F t = some b → s = t) := h.inj
  clear h hm hda hdh hdi c1 c2 c3 c4 c5 hk
  go_enter Tryz.func55, Tryz.ntmps55
  go_wp2_with (first
    | (at_range; refine wpList_range_own _ rfl _ 70 rfl 9 94 law9 Tryz.underlying70 _ mb n _ rfl HM.out ?_; intro w0 hrg0 hg0 hs0)
    | go_in)
  go_frame
  have HRG0 : Hid (w0.ranges Tryz.prog 9 ptrE mb w.heap.size n D (Maps.has D) (Maps.size D)) := hrg0
  have HG0 : Hid (w.grownBy w0 none) := hg0
  clear hrg0 hg0 hs0
  go_loopw [5] (fun _ wr' => ∃ (left : Lit → Bool) (cnt : Nat), wr'.ranges Tryz.prog 9 ptrE mb w.heap.size n D left cnt ∧ (∀ s b, F s = some b → FIs wr' base b (if left (kn s) = true then G b else cutD keep (G b))) ∧ DRow wr' d mb off set ah kp wn ∧ Kept w wr' (Own0 d mb F))
    (fun _ wr' => wr'.rangeLeft mb w.heap.size)
  case atStart =>
    refine ⟨_, _, HRG0.out, fun s b hs => ?_, H.out.row.of_block (HG0.out.block d H.out.row.lt (by simp)), Kept.of HG0.out (fun k hk => by cases hk)⟩
    rw [if_pos (HDI.out s (by rw [hs]; rfl))]
    exact FIs.stay (H.out.file s b hs).1 (HG0.out.block b (HLT.out s b hs).1 (by simp)) (fun x hx => HG0.out.block x.block (SOwn.block (FileIs.own (H.out.file s b hs).1) x.block (by rw [hx]; rfl)).2 (by simp))
  case round =>
    obtain ⟨left, cnt, hrg, hfs, hrow, hkp⟩ := hrel
    have HRG : Hid (wr.ranges Tryz.prog 9 ptrE mb w.heap.size n D left cnt) := hrg
    have HFS : Hid (∀ s b, F s = some b → FIs wr base b (if left (kn s) = true then G b else cutD keep (G b))) := hfs
    have HROW : Hid (DRow wr d mb off set ah kp wn) := hrow
    have HKP : Hid (Kept w wr (Own0 d mb F)) := hkp
    clear hrg hfs hrow hkp HRG0 HG0
    go_wp2_with (first
      | (at_next; refine wpList_next_ranges _ rfl _ rfl 9 law9 ptrE Value.string ptrV (fun key kl hkey => by obtain ⟨x, hx, _⟩ := str_inv hkey; exact ⟨x, hx⟩) (fun v y hv => by obtain ⟨o, ho, _⟩ := ptr_inv hv; exact ⟨o, ho⟩) mb w.heap.size n _ _ _ rfl HRG.out ?_ ?_)
      | go_in)
    · intro _ hl0
      have e1 := HROW.out.cells
      obtain ⟨c0, c1, c2, c3, c4, c5⟩ := e1
      have f1 := HROW.out.frozen 1
      have HR2 : Hid (DRow (wr.setCell ⟨d, 1, none⟩ (.bool true)) d mb true set ah kp wn) := drow_off HROW.out true
      have hgs : wr.grownBy (wr.setCell ⟨d, 1, none⟩ (.bool true)) (some d) := gb_set rfl
      have HFIN : Hid (DiskIs (wr.setCell ⟨d, 1, none⟩ (.bool true)) base d mb n true set ah kp wn F (fun b => cutD keep (G b))) := by
        refine ⟨HR2.out, ⟨D, HRG.out.owns.kept hgs (fun e => HDM.out (Option.some.inj e).symm), HDA.out, HDH.out, HDI.out⟩, fun s b hs => ⟨?_, (H.out.file s b hs).2⟩, H.out.inj, H.out.apart, H.out.hd, H.out.hmb⟩
        have hf := HFS.out s b hs
        rw [hl0, if_neg (by simp)] at hf
        refine FIs.stay hf (hgs.block b (FileIs.row hf).lt (by simpa using (HLT.out s b hs).2.1)) (fun x hx => hgs.block x.block (SOwn.block (FileIs.own hf) x.block (by rw [hx]; rfl)).2 ?_)
        intro e
        have ho := FileIs.own hf
        rw [hx] at ho
        exact own_ne HROW.out ho (by decide) (Option.some.inj e)
      have HKF : Hid (Kept w (wr.setCell ⟨d, 1, none⟩ (.bool true)) (Own0 d mb F)) := HKP.out.trans (Kept.of hgs (X := fun k => k = d) (fun k hk => by cases hk; rfl)) (fun k _ hk => .inl hk)
      clear hgs
      go_wp2
      go_end0
      exact ⟨rfl, HFIN.out, HKF.out⟩
    · intro x o kl yd yp w1 cnt1 hkey hlk hv hat hrg1 hlt hg1 hs1 hen
      obtain ⟨x', ex, rfl, _⟩ := str_inv hkey
      cases ex
      obtain ⟨o', eo, ey⟩ := ptr_inv hv
      simp only [Prod.mk.injEq] at ey
      obtain ⟨rfl, rfl⟩ := ey
      have hoo : o' = o := by
        cases o <;> cases o' <;> simp [ptrV] at eo <;> first | rfl | (rw [eo])
      subst hoo
      have hFx : ptrD (F x) = ptrD o' := (HDA.out x).symm.trans (hat (ptrD none))
      have hFx' : F x = o' := ptrD_inj hFx
      have hhas : Maps.has D (kn x) = true := has_true_of_atKey hat
      obtain ⟨b, hb⟩ : ∃ b, F x = some b := by
        obtain ⟨s, e, hs⟩ := HDH.out _ hhas
        rw [kn_inj e]
        exact Option.isSome_iff_exists.1 hs
      rw [hb] at hFx'
      subst hFx'
      have hbl := HLT.out x b hb
      have hf := HFS.out x b hb
      rw [if_pos hlk] at hf
      have HF1 : Hid (FIs w1 base b (G b)) := FIs.stay hf (hg1.block b (FileIs.row hf).lt (by simp; omega)) (fun z hz => hg1.block z.block (SOwn.block (FileIs.own hf) z.block (by rw [hz]; rfl)).2 (by
        have h1 := (H.out.file x b hb).1
        have h2 := (SOwn.block (FileIs.own h1) z.block (by rw [hz]; rfl)).2
        simp
        omega))
      have HRG1 : Hid (w1.ranges Tryz.prog 9 ptrE mb w.heap.size n D (fun z => left z && !z.sameKey (kn x)) cnt1) := hrg1
      have HG1 : Hid (wr.grownBy w1 (some w.heap.size)) := hg1
      have HLT1 : Hid (cnt1 < cnt) := hlt
      have hen' : (Instr.entry (.pointer (some ⟨w.heap.size, 0, none⟩))).run Tryz.prog w1 = .ok (.tuple #[.string x, .pointer (some ⟨b, 0, none⟩)]) w1 := hen
      have HB : Hid (F x = some b) := hb
      rw [show ptrV (some b) = .pointer (some ⟨b, 0, none⟩) from rfl]
      clear hkey hlk hv hat hrg1 hlt hg1 hs1 hen hFx hhas hf hb
      go_wp2_with fail
      refine (HL.out b _ w1 HF1.out).mono ?_
      rintro e w2 ⟨rfl, hf2, hg2⟩
      have HF2 : Hid (FIs w2 base b (cutD keep (G b))) := hf2
      have HG2 : Hid (w1.grownBy w2 (some b)) := hg2
      clear hf2 hg2
      go_wp2
      go_roundw
      case rel =>
        refine ⟨_, cnt1, HRG1.out.kept HG2.out (fun e => hbl.2.2 (Option.some.inj e).symm) (fun e => by have := Option.some.inj e; omega), fun s b' hs => ?_, ?_, ?_⟩
        · have hf0 := (H.out.file s b' hs).1
          by_cases hsx : s = x
          · subst hsx
            obtain rfl : b' = b := Option.some.inj (hs.symm.trans HB.out)
            have hsk : (kn s).sameKey (kn s) = true := by simp [Lit.sameKey]
            rw [hsk]
            simp only [Bool.not_true, Bool.and_false, Bool.false_eq_true, if_false]
            exact HF2.out
          · have hsk : (kn s).sameKey (kn x) = false := sameKey_ne (kn_ne hsx)
            rw [hsk]
            simp only [Bool.not_false, Bool.and_true]
            have hbb : b' ≠ b := fun e => hsx (HINJ.out s x b (by rw [← e]; exact hs) HB.out)
            have hfw := HFS.out s b' hs
            have hk1 : ∀ k, k < w.heap.size → k ≠ b → w2.heap[k]? = wr.heap[k]? := fun k hk hne => (HG2.out.block k (by have := HG1.out.size; have := HKP.out.size; omega) (by simpa using hne)).trans (HG1.out.block k (by have := HKP.out.size; omega) (by simp; omega))
            refine FIs.stay hfw (hk1 b' (HLT.out s b' hs).1 hbb) (fun z hz => ?_)
            have hza : (G b').a = some z := by
              have : (if left (kn s) = true then G b' else cutD keep (G b')).a = (G b').a := by split <;> rfl
              rw [← this]; exact hz
            have hzo : SOwn byteE 5 w base (.slice (some z) (G b').zs.length (G b').c) (G b').zs.length (G b').zs := by have := FileIs.own hf0; rw [hza] at this; exact this
            exact hk1 z.block (SOwn.block hzo z.block rfl).2 (own_ne (FileIs.row (H.out.file x b HB.out).1) hzo (by decide))
        · exact HROW.out.of_block ((HG2.out.block d (by have := HG1.out.size; have := HROW.out.lt; omega) (fun e => hbl.2.1 (Option.some.inj e).symm)).trans (HG1.out.block d HROW.out.lt (by have := H.out.row.lt; simp; omega)))
        · exact HKP.out.trans ((Kept.of HG1.out (X := fun k => k = w.heap.size ∨ k = b) (fun k hk => by cases hk; exact .inl rfl)).trans (Kept.of HG2.out (X := fun k => k = b) (fun k hk => by cases hk; rfl)) (fun k _ hk => .inr hk)) (fun k hk hX => by
            rcases hX with h | h
            · omega
            · exact .inr (.inr ⟨x, by rw [h]; exact HB.out⟩))
      case measure =>
        have h1 := HRG.out.left_eq
        have h2 := (HRG1.out.kept HG2.out (fun e => hbl.2.2 (Option.some.inj e).symm) (fun e => by have := Option.some.inj e; omega)).left_eq
        rw [h1, h2]
        exact HLT1.out
end Go.Proofs.YtekejnjaiccnbaaGreatDoor

/- Package disk: how a disk goes through writes of its struct; Off. -/
namespace Go.Proofs.YtekejnjaiccnbaaGreatDoor
open Go.RowKit Go.Maps
set_option linter.unusedVariables false
set_option maxRecDepth 20000

section
variable {w w' : World} {base d mb n : Nat} {off set : Bool} {ah kp wn : Int} {F : ByteArray → Option Nat} {G : Nat → FD}
theorem DiskIs.lt (h : DiskIs w base d mb n off set ah kp wn F G) : ∀ s b, F s = some b → b < w.heap.size ∧ b ≠ d ∧ b ≠ mb := fun s b hs => ⟨(FileIs.row (h.file s b hs).1).lt, row_ne (FileIs.row (h.file s b hs).1) h.row (by decide), map_ne (FileIs.row (h.file s b hs).1) h.map⟩
theorem DiskIs.slc (h : DiskIs w base d mb n off set ah kp wn F G) {s : ByteArray} {b : Nat} (hs : F s = some b) {x : Addr} (hx : (G b).a = some x) : base ≤ x.block ∧ x.block < w.heap.size ∧ x.block ≠ d ∧ x.block ≠ mb ∧ ∀ t b', F t = some b' → x.block ≠ b' := by
  have ho := FileIs.own (h.file s b hs).1
  rw [hx] at ho
  have h1 := SOwn.block ho x.block rfl
  exact ⟨h1.1, h1.2, own_ne h.row ho (by decide), own_map h.map ho, fun t b' ht => own_ne (FileIs.row (h.file t b' ht).1) ho (by decide)⟩
/-- The blocks of a disk have stayed, but for its struct's. -/
theorem DiskIs.rowed {off' set' : Bool} {ah' kp' wn' : Int} (h : DiskIs w base d mb n off set ah kp wn F G) (hr : DRow w' d mb off' set' ah' kp' wn') (hg : Kept w w' (fun k => k = d)) : DiskIs w' base d mb n off' set' ah' kp' wn' F G := by
  obtain ⟨D, ⟨es, clock, hb, hF, hs, hD⟩, h1, h2, h3⟩ := h.map
  have hmd : mb ≠ d := fun e => map_ne h.row h.map e.symm
  refine ⟨hr, ⟨D, ⟨es, clock, (hg.block mb h.map.lt hmd).trans hb, hF, hs, hD⟩, h1, h2, h3⟩, fun s b hs => ⟨?_, (h.file s b hs).2⟩, h.inj, h.apart, h.hd, h.hmb⟩
  refine FIs.stay (h.file s b hs).1 (hg.block b (h.lt s b hs).1 (h.lt s b hs).2.1) (fun x hx => hg.block x.block (h.slc hs hx).2.1 (h.slc hs hx).2.2.1)
theorem DiskIs.kept (h : DiskIs w base d mb n off set ah kp wn F G) (hg : w.grownBy w' none) : DiskIs w' base d mb n off set ah kp wn F G :=
  h.rowed (h.row.of_block (hg.block d h.row.lt (by simp))) (Kept.of hg (fun k hk => by cases hk))
theorem DiskIs.drew (h : DiskIs w base d mb n off set ah kp wn F G) : DiskIs w.drew base d mb n off set ah kp wn F G := h.kept (gb_drew (World.grownBy.refl w none))
/-- Other blocks may be written, too. -/
theorem DiskIs.others {X : Nat → Prop} (h : DiskIs w base d mb n off set ah kp wn F G) (hg : Kept w w' X) (h1 : ¬ X d) (h2 : ¬ X mb) (h3 : ∀ s b, F s = some b → ¬ X b ∧ ∀ x, (G b).a = some x → ¬ X x.block) : DiskIs w' base d mb n off set ah kp wn F G := by
  obtain ⟨D, ⟨es, clock, hb, hF, hs, hD⟩, e1, e2, e3⟩ := h.map
  refine ⟨h.row.of_block (hg.block d h.row.lt h1), ⟨D, ⟨es, clock, (hg.block mb h.map.lt h2).trans hb, hF, hs, hD⟩, e1, e2, e3⟩, fun s b hs => ⟨?_, (h.file s b hs).2⟩, h.inj, h.apart, h.hd, h.hmb⟩
  exact FIs.stay (h.file s b hs).1 (hg.block b (h.lt s b hs).1 (h3 s b hs).1) (fun x hx => hg.block x.block (h.slc hs hx).2.1 ((h3 s b hs).2 x hx))
end
set_option maxHeartbeats 2000000 in
theorem d_off (base d mb n : Nat) (set : Bool) (ah kp wn keep : Int) (F : ByteArray → Option Nat) (G : Nat → FD) (w : World) (h : DiskIs w base d mb n false set ah kp wn F G) (hk : -9223372036854775808 ≤ keep ∧ keep ≤ 9223372036854775807) :
    Calls Tryz.prog 20 #[.pointer (some ⟨d, 0, none⟩), .int .i64 keep] w fun e w' => e = .returned (.tuple #[]) ∧ DiskIs w' base d mb n true false 0 0 wn F (fun b => cutD keep (G b)) ∧ Kept w w' (Own0 d mb F) := by
  obtain ⟨c0, c1, c2, c3, c4, c5⟩ := h.row.cells
  have HC : Hid (Calls Tryz.prog 55 #[.pointer (some ⟨d, 0, none⟩), .int .i64 keep] w fun e w' => e = .returned (.tuple #[]) ∧ DiskIs w' base d mb n true set ah kp wn F (fun b => cutD keep (G b)) ∧ Kept w w' (Own0 d mb F)) := d_cut base d mb n false set ah kp wn keep F G w h hk
  clear h hk c0 c2 c3 c4 c5
  go_enter Tryz.func20, Tryz.ntmps20
  go_wp2_with fail
  refine HC.out.mono ?_
  rintro e w1 ⟨rfl, hd1, hk1⟩
  have HD1 : Hid (DiskIs w1 base d mb n true set ah kp wn F (fun b => cutD keep (G b))) := hd1
  have HK1 : Hid (Kept w w1 (Own0 d mb F)) := hk1
  clear hd1 hk1
  go_wp2_with fail
  refine (d_disarm d mb true set ah kp wn w1 HD1.out.row).mono ?_
  rintro e w2 ⟨rfl, hr2, hg2⟩
  have HD2 : Hid (DiskIs w2 base d mb n true false 0 0 wn F (fun b => cutD keep (G b))) := HD1.out.rowed hr2 (Kept.of hg2 (fun k hk => by cases hk; rfl))
  have HK2 : Hid (Kept w w2 (Own0 d mb F)) := HK1.out.trans (Kept.of hg2 (X := fun k => k = d) (fun k hk => by cases hk; rfl)) (fun k _ hk => .inl hk)
  clear hr2 hg2
  go_wp2
  go_end0
  exact ⟨rfl, HD2.out, HK2.out⟩
end Go.Proofs.YtekejnjaiccnbaaGreatDoor

/- Package disk: a write, done or cut. (Printed by mk_write.py.) -/
namespace Go.Proofs.YtekejnjaiccnbaaGreatDoor
open Go.RowKit Go.Maps
set_option linter.unusedVariables false
set_option maxRecDepth 20000

theorem drow_set {w : World} {d mb : Nat} {off set : Bool} {ah kp wn : Int} (h : DRow w d mb off set ah kp wn) (i : Nat) (u : Value) {off' set' : Bool} {ah' kp' wn' : Int} (hu : ∀ j, j < 6 → (if j = i then u else DiskF mb off set ah kp wn j) = DiskF mb off' set' ah' kp' wn' j) : DRow (w.setCell ⟨d, i, none⟩ u) d mb off' set' ah' kp' wn' := (h.set i u).congr hu
theorem kept_set {w : World} {d i : Nat} {u : Value} : Kept w (w.setCell ⟨d, i, none⟩ u) (fun k => k = d) := Kept.of (gb_set (g := d) rfl) (fun k hk => by cases hk; rfl)
set_option maxHeartbeats 2000000 in
theorem d_writeGo46 (base d mb n : Nat) (lands off : Bool) (ah kp wn : Int) (F : ByteArray → Option Nat) (G : Nat → FD) (caps : Array Value) (P : World → Prop) (w : World) (h : DiskIs w base d mb n off false ah kp wn F G) (hw : 0 ≤ wn ∧ wn ≤ 1000000000)
    (hcl : ∀ w1, DiskIs w1 base d mb n off false ah kp (wn + 1) F G → Kept w w1 (fun k => k = d) → Calls Tryz.prog 68 caps w1 fun e w' => e = .returned (.tuple #[]) ∧ P w') :
    Calls Tryz.prog 67 #[.pointer (some ⟨d, 0, none⟩), .bool lands, .func (.func 68) #[] caps] w fun e w' => e = .returned (.int .i64 0) ∧ P w' := by
  obtain ⟨c0, c1, c2, c3, c4, c5⟩ := h.row.cells
  have f5 := h.row.frozen 5
  have hr1 : DRow (w.setCell ⟨d, 5, none⟩ (.int .u64 (wn + 1))) d mb off false ah kp (wn + 1) := drow_set h.row 5 _ (six rfl rfl rfl rfl rfl rfl)
  have HCL : Hid (Calls Tryz.prog 68 caps (w.setCell ⟨d, 5, none⟩ (.int .u64 (wn + 1))) fun e w' => e = .returned (.tuple #[]) ∧ P w') := hcl _ (h.rowed hr1 kept_set) kept_set
  have hwb : 0 ≤ wn + 1 ∧ wn + 1 ≤ 1000000001 := by omega
  clear h hcl hr1 c0 c1 c3 c4
  go_enter Tryz.func67, Tryz.ntmps67
  go_wp2_with fail
  refine HCL.out.mono ?_
  rintro e w' ⟨rfl, hp⟩
  have HP : Hid (P w') := hp
  clear hp
  go_wp2
  go_ret
  exact ⟨rfl, HP.out⟩
set_option maxHeartbeats 2000000 in
theorem d_writeArmed46 (base d mb n : Nat) (lands off : Bool) (ah kp wn : Int) (F : ByteArray → Option Nat) (G : Nat → FD) (caps : Array Value) (P : World → Prop) (w : World) (h : DiskIs w base d mb n off true ah kp wn F G) (hw : 0 ≤ wn ∧ wn ≤ 1000000000) (ha : 0 < ah ∧ ah ≤ 9223372036854775807)
    (hcl : ∀ w1, DiskIs w1 base d mb n off true (ah - 1) kp (wn + 1) F G → Kept w w1 (fun k => k = d) → Calls Tryz.prog 68 caps w1 fun e w' => e = .returned (.tuple #[]) ∧ P w') :
    Calls Tryz.prog 67 #[.pointer (some ⟨d, 0, none⟩), .bool lands, .func (.func 68) #[] caps] w fun e w' => e = .returned (.int .i64 0) ∧ P w' := by
  obtain ⟨c0, c1, c2, c3, c4, c5⟩ := h.row.cells
  have f5 := h.row.frozen 5
  have f3 := h.row.frozen 3
  have hr1 : DRow (w.setCell ⟨d, 5, none⟩ (.int .u64 (wn + 1))) d mb off true ah kp (wn + 1) := drow_set h.row 5 _ (six rfl rfl rfl rfl rfl rfl)
  have hr2 : DRow ((w.setCell ⟨d, 5, none⟩ (.int .u64 (wn + 1))).setCell ⟨d, 3, none⟩ (.int .i64 (ah - 1))) d mb off true (ah - 1) kp (wn + 1) := drow_set hr1 3 _ (six rfl rfl rfl rfl rfl rfl)
  have hk2 : Kept w ((w.setCell ⟨d, 5, none⟩ (.int .u64 (wn + 1))).setCell ⟨d, 3, none⟩ (.int .i64 (ah - 1))) (fun k => k = d) := kept_set.trans kept_set (fun k _ hk => hk)
  have HCL : Hid (Calls Tryz.prog 68 caps ((w.setCell ⟨d, 5, none⟩ (.int .u64 (wn + 1))).setCell ⟨d, 3, none⟩ (.int .i64 (ah - 1))) fun e w' => e = .returned (.tuple #[]) ∧ P w') := hcl _ (h.rowed hr2 hk2) hk2
  have hwb : 0 ≤ wn + 1 ∧ wn + 1 ≤ 1000000001 := by omega
  have q0 : (ah == 0) = false := by simp; omega
  have hab : 0 ≤ ah - 1 ∧ ah - 1 ≤ 9223372036854775807 := by omega
  clear h hcl hr1 hr2 hk2 c0 c1 c4
  go_enter Tryz.func67, Tryz.ntmps67
  go_wp2_with fail
  refine HCL.out.mono ?_
  rintro e w' ⟨rfl, hp⟩
  have HP : Hid (P w') := hp
  clear hp
  go_wp2
  go_ret
  exact ⟨rfl, HP.out⟩
set_option maxHeartbeats 2000000 in
theorem d_writeGo48 (base d mb n : Nat) (lands off : Bool) (ah kp wn : Int) (F : ByteArray → Option Nat) (G : Nat → FD) (caps : Array Value) (P : World → Prop) (w : World) (h : DiskIs w base d mb n off false ah kp wn F G) (hw : 0 ≤ wn ∧ wn ≤ 1000000000)
    (hcl : ∀ w1, DiskIs w1 base d mb n off false ah kp (wn + 1) F G → Kept w w1 (fun k => k = d) → Calls Tryz.prog 96 caps w1 fun e w' => e = .returned (.tuple #[]) ∧ P w') :
    Calls Tryz.prog 67 #[.pointer (some ⟨d, 0, none⟩), .bool lands, .func (.func 96) #[] caps] w fun e w' => e = .returned (.int .i64 0) ∧ P w' := by
  obtain ⟨c0, c1, c2, c3, c4, c5⟩ := h.row.cells
  have f5 := h.row.frozen 5
  have hr1 : DRow (w.setCell ⟨d, 5, none⟩ (.int .u64 (wn + 1))) d mb off false ah kp (wn + 1) := drow_set h.row 5 _ (six rfl rfl rfl rfl rfl rfl)
  have HCL : Hid (Calls Tryz.prog 96 caps (w.setCell ⟨d, 5, none⟩ (.int .u64 (wn + 1))) fun e w' => e = .returned (.tuple #[]) ∧ P w') := hcl _ (h.rowed hr1 kept_set) kept_set
  have hwb : 0 ≤ wn + 1 ∧ wn + 1 ≤ 1000000001 := by omega
  clear h hcl hr1 c0 c1 c3 c4
  go_enter Tryz.func67, Tryz.ntmps67
  go_wp2_with fail
  refine HCL.out.mono ?_
  rintro e w' ⟨rfl, hp⟩
  have HP : Hid (P w') := hp
  clear hp
  go_wp2
  go_ret
  exact ⟨rfl, HP.out⟩
set_option maxHeartbeats 2000000 in
theorem d_writeArmed48 (base d mb n : Nat) (lands off : Bool) (ah kp wn : Int) (F : ByteArray → Option Nat) (G : Nat → FD) (caps : Array Value) (P : World → Prop) (w : World) (h : DiskIs w base d mb n off true ah kp wn F G) (hw : 0 ≤ wn ∧ wn ≤ 1000000000) (ha : 0 < ah ∧ ah ≤ 9223372036854775807)
    (hcl : ∀ w1, DiskIs w1 base d mb n off true (ah - 1) kp (wn + 1) F G → Kept w w1 (fun k => k = d) → Calls Tryz.prog 96 caps w1 fun e w' => e = .returned (.tuple #[]) ∧ P w') :
    Calls Tryz.prog 67 #[.pointer (some ⟨d, 0, none⟩), .bool lands, .func (.func 96) #[] caps] w fun e w' => e = .returned (.int .i64 0) ∧ P w' := by
  obtain ⟨c0, c1, c2, c3, c4, c5⟩ := h.row.cells
  have f5 := h.row.frozen 5
  have f3 := h.row.frozen 3
  have hr1 : DRow (w.setCell ⟨d, 5, none⟩ (.int .u64 (wn + 1))) d mb off true ah kp (wn + 1) := drow_set h.row 5 _ (six rfl rfl rfl rfl rfl rfl)
  have hr2 : DRow ((w.setCell ⟨d, 5, none⟩ (.int .u64 (wn + 1))).setCell ⟨d, 3, none⟩ (.int .i64 (ah - 1))) d mb off true (ah - 1) kp (wn + 1) := drow_set hr1 3 _ (six rfl rfl rfl rfl rfl rfl)
  have hk2 : Kept w ((w.setCell ⟨d, 5, none⟩ (.int .u64 (wn + 1))).setCell ⟨d, 3, none⟩ (.int .i64 (ah - 1))) (fun k => k = d) := kept_set.trans kept_set (fun k _ hk => hk)
  have HCL : Hid (Calls Tryz.prog 96 caps ((w.setCell ⟨d, 5, none⟩ (.int .u64 (wn + 1))).setCell ⟨d, 3, none⟩ (.int .i64 (ah - 1))) fun e w' => e = .returned (.tuple #[]) ∧ P w') := hcl _ (h.rowed hr2 hk2) hk2
  have hwb : 0 ≤ wn + 1 ∧ wn + 1 ≤ 1000000001 := by omega
  have q0 : (ah == 0) = false := by simp; omega
  have hab : 0 ≤ ah - 1 ∧ ah - 1 ≤ 9223372036854775807 := by omega
  clear h hcl hr1 hr2 hk2 c0 c1 c4
  go_enter Tryz.func67, Tryz.ntmps67
  go_wp2_with fail
  refine HCL.out.mono ?_
  rintro e w' ⟨rfl, hp⟩
  have HP : Hid (P w') := hp
  clear hp
  go_wp2
  go_ret
  exact ⟨rfl, HP.out⟩
set_option maxHeartbeats 2000000 in
theorem d_writeGo52 (base d mb n : Nat) (lands off : Bool) (ah kp wn : Int) (F : ByteArray → Option Nat) (G : Nat → FD) (caps : Array Value) (P : World → Prop) (w : World) (h : DiskIs w base d mb n off false ah kp wn F G) (hw : 0 ≤ wn ∧ wn ≤ 1000000000)
    (hcl : ∀ w1, DiskIs w1 base d mb n off false ah kp (wn + 1) F G → Kept w w1 (fun k => k = d) → Calls Tryz.prog 152 caps w1 fun e w' => e = .returned (.tuple #[]) ∧ P w') :
    Calls Tryz.prog 67 #[.pointer (some ⟨d, 0, none⟩), .bool lands, .func (.func 152) #[] caps] w fun e w' => e = .returned (.int .i64 0) ∧ P w' := by
  obtain ⟨c0, c1, c2, c3, c4, c5⟩ := h.row.cells
  have f5 := h.row.frozen 5
  have hr1 : DRow (w.setCell ⟨d, 5, none⟩ (.int .u64 (wn + 1))) d mb off false ah kp (wn + 1) := drow_set h.row 5 _ (six rfl rfl rfl rfl rfl rfl)
  have HCL : Hid (Calls Tryz.prog 152 caps (w.setCell ⟨d, 5, none⟩ (.int .u64 (wn + 1))) fun e w' => e = .returned (.tuple #[]) ∧ P w') := hcl _ (h.rowed hr1 kept_set) kept_set
  have hwb : 0 ≤ wn + 1 ∧ wn + 1 ≤ 1000000001 := by omega
  clear h hcl hr1 c0 c1 c3 c4
  go_enter Tryz.func67, Tryz.ntmps67
  go_wp2_with fail
  refine HCL.out.mono ?_
  rintro e w' ⟨rfl, hp⟩
  have HP : Hid (P w') := hp
  clear hp
  go_wp2
  go_ret
  exact ⟨rfl, HP.out⟩
set_option maxHeartbeats 2000000 in
theorem d_writeArmed52 (base d mb n : Nat) (lands off : Bool) (ah kp wn : Int) (F : ByteArray → Option Nat) (G : Nat → FD) (caps : Array Value) (P : World → Prop) (w : World) (h : DiskIs w base d mb n off true ah kp wn F G) (hw : 0 ≤ wn ∧ wn ≤ 1000000000) (ha : 0 < ah ∧ ah ≤ 9223372036854775807)
    (hcl : ∀ w1, DiskIs w1 base d mb n off true (ah - 1) kp (wn + 1) F G → Kept w w1 (fun k => k = d) → Calls Tryz.prog 152 caps w1 fun e w' => e = .returned (.tuple #[]) ∧ P w') :
    Calls Tryz.prog 67 #[.pointer (some ⟨d, 0, none⟩), .bool lands, .func (.func 152) #[] caps] w fun e w' => e = .returned (.int .i64 0) ∧ P w' := by
  obtain ⟨c0, c1, c2, c3, c4, c5⟩ := h.row.cells
  have f5 := h.row.frozen 5
  have f3 := h.row.frozen 3
  have hr1 : DRow (w.setCell ⟨d, 5, none⟩ (.int .u64 (wn + 1))) d mb off true ah kp (wn + 1) := drow_set h.row 5 _ (six rfl rfl rfl rfl rfl rfl)
  have hr2 : DRow ((w.setCell ⟨d, 5, none⟩ (.int .u64 (wn + 1))).setCell ⟨d, 3, none⟩ (.int .i64 (ah - 1))) d mb off true (ah - 1) kp (wn + 1) := drow_set hr1 3 _ (six rfl rfl rfl rfl rfl rfl)
  have hk2 : Kept w ((w.setCell ⟨d, 5, none⟩ (.int .u64 (wn + 1))).setCell ⟨d, 3, none⟩ (.int .i64 (ah - 1))) (fun k => k = d) := kept_set.trans kept_set (fun k _ hk => hk)
  have HCL : Hid (Calls Tryz.prog 152 caps ((w.setCell ⟨d, 5, none⟩ (.int .u64 (wn + 1))).setCell ⟨d, 3, none⟩ (.int .i64 (ah - 1))) fun e w' => e = .returned (.tuple #[]) ∧ P w') := hcl _ (h.rowed hr2 hk2) hk2
  have hwb : 0 ≤ wn + 1 ∧ wn + 1 ≤ 1000000001 := by omega
  have q0 : (ah == 0) = false := by simp; omega
  have hab : 0 ≤ ah - 1 ∧ ah - 1 ≤ 9223372036854775807 := by omega
  clear h hcl hr1 hr2 hk2 c0 c1 c4
  go_enter Tryz.func67, Tryz.ntmps67
  go_wp2_with fail
  refine HCL.out.mono ?_
  rintro e w' ⟨rfl, hp⟩
  have HP : Hid (P w') := hp
  clear hp
  go_wp2
  go_ret
  exact ⟨rfl, HP.out⟩
set_option maxHeartbeats 2000000 in
theorem d_writeLost (base d mb n : Nat) (off : Bool) (kp wn : Int) (F : ByteArray → Option Nat) (G : Nat → FD) (cl : Value) (w : World) (h : DiskIs w base d mb n off true 0 kp wn F G) (hw : 0 ≤ wn ∧ wn ≤ 1000000000) (hk : -9223372036854775808 ≤ kp ∧ kp ≤ 9223372036854775807) :
    Calls Tryz.prog 67 #[.pointer (some ⟨d, 0, none⟩), .bool false, cl] w fun e w' => e = .returned (.int .i64 60) ∧ DiskIs w' base d mb n true false 0 0 (wn + 1) F (fun b => cutD kp (G b)) ∧ Kept w w' (Own0 d mb F) := by
  obtain ⟨c0, c1, c2, c3, c4, c5⟩ := h.row.cells
  have f5 := h.row.frozen 5
  have hr1 : DRow (w.setCell ⟨d, 5, none⟩ (.int .u64 (wn + 1))) d mb off true 0 kp (wn + 1) := drow_set h.row 5 _ (six rfl rfl rfl rfl rfl rfl)
  have HC : Hid (Calls Tryz.prog 55 #[.pointer (some ⟨d, 0, none⟩), .int .i64 kp] (w.setCell ⟨d, 5, none⟩ (.int .u64 (wn + 1))) fun e w' => e = .returned (.tuple #[]) ∧ DiskIs w' base d mb n true true 0 kp (wn + 1) F (fun b => cutD kp (G b)) ∧ Kept (w.setCell ⟨d, 5, none⟩ (.int .u64 (wn + 1))) w' (Own0 d mb F)) := d_cut base d mb n off true 0 kp (wn + 1) kp F G _ (h.rowed hr1 kept_set) hk
  have hwb : 0 ≤ wn + 1 ∧ wn + 1 ≤ 1000000001 := by omega
  have HK0 : Hid (Kept w (w.setCell ⟨d, 5, none⟩ (.int .u64 (wn + 1))) (Own0 d mb F)) := kept_set.mono (fun k _ hk => .inl hk)
  clear h hr1 c0 c1 hk
  go_enter Tryz.func67, Tryz.ntmps67
  go_wp2_with fail
  refine HC.out.mono ?_
  rintro e w1 ⟨rfl, hd1, hk1⟩
  have HD1 : Hid (DiskIs w1 base d mb n true true 0 kp (wn + 1) F (fun b => cutD kp (G b))) := hd1
  have HK1 : Hid (Kept w w1 (Own0 d mb F)) := HK0.out.trans hk1 (fun k _ hk => hk)
  clear hd1 hk1
  go_wp2_with fail
  refine (d_disarm d mb true true 0 kp (wn + 1) w1 HD1.out.row).mono ?_
  rintro e w2 ⟨rfl, hr2, hg2⟩
  have HD2 : Hid (DiskIs w2 base d mb n true false 0 0 (wn + 1) F (fun b => cutD kp (G b))) := HD1.out.rowed hr2 (Kept.of hg2 (fun k hk => by cases hk; rfl))
  have HK2 : Hid (Kept w w2 (Own0 d mb F)) := HK1.out.trans (Kept.of hg2 (X := fun k => k = d) (fun k hk => by cases hk; rfl)) (fun k _ hk => .inl hk)
  clear hr2 hg2
  go_wp2
  go_ret
  exact ⟨rfl, HD2.out, HK2.out⟩
set_option maxHeartbeats 2000000 in
theorem d_writeCut46 (base d mb n : Nat) (off : Bool) (kp wn : Int) (F : ByteArray → Option Nat) (G : Nat → FD) (caps : Array Value) (Q : World → Nat → (ByteArray → Option Nat) → (Nat → FD) → Prop) (w : World) (h : DiskIs w base d mb n off true 0 kp wn F G) (hw : 0 ≤ wn ∧ wn ≤ 1000000000) (hk : -9223372036854775808 ≤ kp ∧ kp ≤ 9223372036854775807)
    (hcl : ∀ w1, DiskIs w1 base d mb n off true 0 kp (wn + 1) F G → Kept w w1 (fun k => k = d) → Calls Tryz.prog 68 caps w1 fun e w' => e = .returned (.tuple #[]) ∧ ∃ n' F' G', DiskIs w' base d mb n' off true 0 kp (wn + 1) F' G' ∧ Q w' n' F' G') :
    Calls Tryz.prog 67 #[.pointer (some ⟨d, 0, none⟩), .bool true, .func (.func 68) #[] caps] w fun e w' => e = .returned (.int .i64 60) ∧ ∃ w1 n' F' G', Q w1 n' F' G' ∧ DiskIs w' base d mb n' true false 0 0 (wn + 1) F' (fun b => cutD kp (G' b)) ∧ Kept w1 w' (Own0 d mb F') := by
  obtain ⟨c0, c1, c2, c3, c4, c5⟩ := h.row.cells
  have f5 := h.row.frozen 5
  have hr1 : DRow (w.setCell ⟨d, 5, none⟩ (.int .u64 (wn + 1))) d mb off true 0 kp (wn + 1) := drow_set h.row 5 _ (six rfl rfl rfl rfl rfl rfl)
  have HCL : Hid (Calls Tryz.prog 68 caps (w.setCell ⟨d, 5, none⟩ (.int .u64 (wn + 1))) fun e w' => e = .returned (.tuple #[]) ∧ ∃ n' F' G', DiskIs w' base d mb n' off true 0 kp (wn + 1) F' G' ∧ Q w' n' F' G') := hcl _ (h.rowed hr1 kept_set) kept_set
  have hwb : 0 ≤ wn + 1 ∧ wn + 1 ≤ 1000000001 := by omega
  clear h hcl hr1 c0 c1
  go_enter Tryz.func67, Tryz.ntmps67
  go_wp2_with fail
  refine HCL.out.mono ?_
  rintro e w1 ⟨rfl, n', F', G', hd1, hq⟩
  have HD1 : Hid (DiskIs w1 base d mb n' off true 0 kp (wn + 1) F' G') := hd1
  have HQ : Hid (Q w1 n' F' G') := hq
  obtain ⟨x0, x1, x2, x3, x4, x5⟩ := hd1.row.cells
  clear hd1 hq x0 x1 x2 x3 x5
  go_wp2_with fail
  refine (d_cut base d mb n' off true 0 kp (wn + 1) kp F' G' w1 HD1.out hk).mono ?_
  rintro e w2 ⟨rfl, hd2, hk2⟩
  have HD2 : Hid (DiskIs w2 base d mb n' true true 0 kp (wn + 1) F' (fun b => cutD kp (G' b))) := hd2
  have HK2 : Hid (Kept w1 w2 (Own0 d mb F')) := hk2
  clear hd2 hk2
  go_wp2_with fail
  refine (d_disarm d mb true true 0 kp (wn + 1) w2 HD2.out.row).mono ?_
  rintro e w3 ⟨rfl, hr3, hg3⟩
  have HD3 : Hid (DiskIs w3 base d mb n' true false 0 0 (wn + 1) F' (fun b => cutD kp (G' b))) := HD2.out.rowed hr3 (Kept.of hg3 (fun k hk => by cases hk; rfl))
  have HK3 : Hid (Kept w1 w3 (Own0 d mb F')) := HK2.out.trans (Kept.of hg3 (X := fun k => k = d) (fun k hk => by cases hk; rfl)) (fun k _ hk => .inl hk)
  clear hr3 hg3
  go_wp2
  go_ret
  exact ⟨rfl, w1, n', F', G', HQ.out, HD3.out, HK3.out⟩
end Go.Proofs.YtekejnjaiccnbaaGreatDoor

