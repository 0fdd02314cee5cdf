/- The law's own first look at a disk. -/
import Derived.Test.YtdnkdopjlobklaaDk13
namespace Go.Proofs.Ytdnkdopjlobklaa
open Go.RowKit Go.Maps
set_option linter.unusedVariables false
set_option maxRecDepth 20000

theorem DV.lts {w : World} {base d mb n : Nat} {off set : Bool} {ah kp wn : Int} {V : Cont} {B : Nat → Prop} (h : DV w base d mb n off set ah kp wn V B) : d < w.heap.size ∧ mb < w.heap.size := by
  obtain ⟨F, G, hd, _⟩ := h
  exact ⟨hd.row.lt, hd.map.lt⟩
theorem blit (w : World) (zs : List Int) : SRd byteE (w.alloc (.cells (byteE.flat zs).toArray 5)) (some ⟨w.heap.size, 0, none⟩) zs := by
  refine .inr ⟨w.heap.size, 0, rfl, fun j v hj => ?_⟩
  rw [Nat.zero_add, cell_of_row _ w.heap.size j _ 5 _ (heap_alloc_new w _)]
  simpa using hj
/-- From the first world on: nothing that was there is among the disk's blocks. -/
def From (w0 w : World) (B : Nat → Prop) : Prop := w0.grownBy w none ∧ ∀ k, k < w0.heap.size → ¬ B k
theorem From.step {w0 w w' : World} {B B' : Nat → Prop} (h : From w0 w B) (hs : Step w w' B B') : From w0 w' B' := by
  obtain ⟨hg, hB⟩ := h
  refine ⟨⟨hs.1.os.trans hg.os, hs.1.tape.trans hg.tape, hs.1.output.trans hg.output, Nat.le_trans hg.size hs.1.size, fun k hk hne => (hs.1.block k (Nat.lt_of_lt_of_le hk hg.size) (hB k hk)).trans (hg.block k hk hne)⟩, fun k hk hb => hB k hk (hs.2 k (Nat.lt_of_lt_of_le hk hg.size) hb)⟩
theorem From.grown {w0 w w' : World} {B : Nat → Prop} (h : From w0 w B) (hg : w.grownBy w' none) : From w0 w' B := ⟨h.1.trans hg, h.2⟩
/-- Append of bytes that were laid just ahead. -/
theorem v_appendLit (w0 : World) (base d mb n : Nat) (ah kp wn : Int) (V : Cont) (B : Nat → Prop) (s : ByteArray) (zs : List Int) (w : World) (h : DV w base d mb n false false ah kp wn V B) (hf : From w0 w B) (hb0 : base = w0.heap.size) (hnm : nameB s = true) (hn : n < 1048576) (hw : 0 ≤ wn ∧ wn ≤ 1000000000) (hby : ∀ z ∈ zs, 0 ≤ z ∧ z ≤ 255) (hlen : (oldV V s).1.length + zs.length ≤ 4194304) :
    Calls Try.prog 15 #[.pointer (some ⟨d, 0, none⟩), .string s, .slice (some ⟨w.heap.size, 0, none⟩) zs.length zs.length] (w.alloc (.cells (byteE.flat zs).toArray 5)) fun e w' => e = .returned (.int .i64 0) ∧ ∃ n' B', n' ≤ n + 1 ∧ DV w' base d mb n' false false ah kp (wn + 1) (setV V s (some ((oldV V s).1 ++ zs, (oldV V s).2))) B' ∧ From w0 w' B' := by
  have hg := World.grownBy_alloc w (.cells (byteE.flat zs).toArray 5) none
  obtain ⟨h1, h2⟩ := h.lts
  refine (v_append base d mb n ah kp wn V B s ⟨w.heap.size, 0, none⟩ zs zs.length zs.length _ (h.kept hg) hnm hn hw (blit w zs) rfl hby hlen (by rw [hb0]; exact Nat.le_trans hf.1.size hg.size) (by show w.heap.size ≠ mb; omega) (by show w.heap.size ≠ d; omega)).mono ?_
  rintro e w' ⟨rfl, n', B', hn', hd', hst⟩
  exact ⟨rfl, n', B', hn', hd', (hf.grown hg).step hst⟩
theorem srd_rd {w : World} {a : Option Addr} {l : List Int} (h : SRd byteE w a l) (hb : ∀ z ∈ l, 0 ≤ z ∧ z ≤ 255) : Rd w a l := by
  refine ⟨?_, hb⟩
  rcases h with h | ⟨b, off, e, h⟩
  · exact .inl h
  · refine .inr ⟨b, off, e, fun i hi => h i _ ?_⟩
    rw [byteE_flat, List.getElem?_map, List.getElem?_eq_getElem hi]
    simp [List.getD, List.getElem?_eq_getElem hi]
theorem SRd.step {w w' : World} {B B' : Nat → Prop} {a : Option Addr} {l : List Int} (h : SRd byteE w a l) (hs : Kept w w' B) (hx : ∀ x, a = some x → x.block < w.heap.size ∧ ¬ B x.block) : SRd byteE w' a l := by
  rcases h with e | ⟨b, off, e, h⟩
  · exact .inl e
  · refine .inr ⟨b, off, e, fun j v hj => ?_⟩
    have hc := h j v hj
    obtain ⟨h1, h2⟩ := hx _ e
    unfold World.cell? at hc ⊢
    rw [hs.block b h1 h2]
    exact hc
def nmA : ByteArray := ⟨#[97]⟩
def nmB : ByteArray := ⟨#[98]⟩
theorem nameA : nameB nmA = true := by decide
theorem nameBB : nameB nmB = true := by decide
def V0 : Cont := fun _ => none
def V1 : Cont := setV V0 nmA (some ([1, 2], 0))
def V2 : Cont := setV V1 nmA (some ([1, 2], 2))
def V3 : Cont := setV V2 nmA (some ([1, 2, 3, 4], 2))
def V4 : Cont := fun t => (V3 t).map (cutV 1)
theorem V4_a : V4 nmA = some ([1, 2, 3], 3) := by
  show (V3 nmA).map (cutV 1) = _
  unfold V3
  rw [setV_same]
  rfl
set_option maxHeartbeats 4000000 in
theorem awake_disk (w : World) : Calls Try.prog 11 #[] w fun e w' => e = .returned (.bool true) ∧ w.grownBy w' none := by
  have HN : Hid (Calls Try.prog 8 #[] w fun e w' => ∃ d mb B, e = .returned (.pointer (some ⟨d, 0, none⟩)) ∧ DV w' w.heap.size d mb 0 false false 0 0 0 V0 B ∧ From w w' B) := by
    refine (v_new w).mono ?_
    rintro e w' ⟨d, mb, B, rfl, h1, h2, h3⟩
    exact ⟨d, mb, B, rfl, h1, h2, fun k hk hb => by have := h3 k hb; omega⟩
  have HA1 : Hid (∀ d mb B w1, DV w1 w.heap.size d mb 0 false false 0 0 0 V0 B → From w w1 B → Calls Try.prog 15 #[.pointer (some ⟨d, 0, none⟩), .string ⟨#[97]⟩, .slice (some ⟨w1.heap.size, 0, none⟩) 2 2] (w1.alloc (.cells #[.int .u8 1, .int .u8 2] 5)) fun e w' => e = .returned (.int .i64 0) ∧ ∃ n' B', n' ≤ 1 ∧ DV w' w.heap.size d mb n' false false 0 0 1 V1 B' ∧ From w w' B') := fun d mb B w1 h hf => v_appendLit w w.heap.size d mb 0 0 0 0 V0 B nmA [1, 2] w1 h hf rfl nameA (by omega) (by omega) (by simp) (by decide)
  have HS : Hid (∀ d mb n B w1, DV w1 w.heap.size d mb n false false 0 0 1 V1 B → From w w1 B → Calls Try.prog 17 #[.pointer (some ⟨d, 0, none⟩), .string ⟨#[97]⟩] w1 fun e w' => e = .returned (.int .i64 0) ∧ ∃ B', DV w' w.heap.size d mb n false false 0 0 2 V2 B' ∧ From w w' B') := by
    intro d mb n B w1 h hf
    refine (v_sync w.heap.size d mb n 0 0 1 V1 B nmA [1, 2] 0 w1 h nameA (setV_same _ _ _) (by omega)).mono ?_
    rintro e w' ⟨rfl, B', h1, h2⟩
    exact ⟨rfl, B', h1, hf.step h2⟩
  have HA2 : Hid (∀ d mb n B w1, n ≤ 1 → DV w1 w.heap.size d mb n false false 0 0 2 V2 B → From w w1 B → Calls Try.prog 15 #[.pointer (some ⟨d, 0, none⟩), .string ⟨#[97]⟩, .slice (some ⟨w1.heap.size, 0, none⟩) 2 2] (w1.alloc (.cells #[.int .u8 3, .int .u8 4] 5)) fun e w' => e = .returned (.int .i64 0) ∧ ∃ n' B', n' ≤ 2 ∧ DV w' w.heap.size d mb n' false false 0 0 3 V3 B' ∧ From w w' B') := by
    intro d mb n B w1 hn h hf
    refine (v_appendLit w w.heap.size d mb n 0 0 2 V2 B nmA [3, 4] w1 h hf rfl nameA (by omega) (by omega) (by simp) (by decide)).mono ?_
    rintro e w' ⟨rfl, n', B', hn', h1, h2⟩
    exact ⟨rfl, n', B', by omega, h1, h2⟩
  have HO : Hid (∀ d mb n B w1, DV w1 w.heap.size d mb n false false 0 0 3 V3 B → From w w1 B → Calls Try.prog 19 #[.pointer (some ⟨d, 0, none⟩), .int .i64 1] w1 fun e w' => e = .returned (.tuple #[]) ∧ DV w' w.heap.size d mb n true false 0 0 3 V4 B ∧ From w w' B) := by
    intro d mb n B w1 h hf
    refine (v_off w.heap.size d mb n false 0 0 3 1 V3 B w1 h (by omega)).mono ?_
    rintro e w' ⟨rfl, h1, h2⟩
    exact ⟨rfl, h1, hf.step h2⟩
  have HA3 : Hid (∀ d mb n B w1, DV w1 w.heap.size d mb n true false 0 0 3 V4 B → From w w1 B → Calls Try.prog 15 #[.pointer (some ⟨d, 0, none⟩), .string ⟨#[97]⟩, .slice none 0 0] w1 fun e w' => e = .returned (.int .i64 60) ∧ DV w' w.heap.size d mb n true false 0 0 3 V4 B ∧ From w w' B) := by
    intro d mb n B w1 h hf
    refine (v_appendOff w.heap.size d mb n false 0 0 3 V4 B nmA none 0 0 w1 h (by decide)).mono ?_
    rintro e w' ⟨rfl, hg⟩
    exact ⟨rfl, h.kept hg, hf.grown hg⟩
  have HON : Hid (∀ d mb n B w1, DV w1 w.heap.size d mb n true false 0 0 3 V4 B → From w w1 B → Calls Try.prog 21 #[.pointer (some ⟨d, 0, none⟩)] w1 fun e w' => e = .returned (.tuple #[]) ∧ DV w' w.heap.size d mb n false false 0 0 3 V4 B ∧ From w w' B) := by
    intro d mb n B w1 h hf
    refine (v_on w.heap.size d mb n true false 0 0 3 V4 B w1 h).mono ?_
    rintro e w' ⟨rfl, h1, h2⟩
    exact ⟨rfl, h1, hf.step h2⟩
  have HR : Hid (∀ d mb n B w1, DV w1 w.heap.size d mb n false false 0 0 3 V4 B → From w w1 B → Calls Try.prog 20 #[.pointer (some ⟨d, 0, none⟩), .string ⟨#[97]⟩] w1 fun e w' => ∃ a' c' B', e = .returned (.tuple #[.slice a' 3 c', .int .i64 0]) ∧ (∀ x, a' = some x → w1.heap.size ≤ x.block ∧ x.block < w'.heap.size ∧ ¬ B' x.block) ∧ SRd byteE w' a' [1, 2, 3] ∧ DV w' w.heap.size d mb n false false 0 0 3 V4 B' ∧ From w w' B') := by
    intro d mb n B w1 h hf
    refine (v_read w.heap.size d mb n false 0 0 3 V4 B nmA [1, 2, 3] 3 w1 h nameA V4_a).mono ?_
    rintro e w' ⟨a', c', rfl, ho, _, _, hg⟩
    have hfs := (From.step hf ⟨Kept.of hg (X := B) (fun k hk => by cases hk), (fun k _ (hb : B k ∧ k < w1.heap.size) => hb.1)⟩ : From w w' (fun k => B k ∧ k < w1.heap.size))
    refine ⟨a', c', fun k => B k ∧ k < w1.heap.size, rfl, fun x hx => ?_, SOwn.rd ho, ?_, hfs⟩
    · have := SOwn.block ho x.block (by rw [hx]; rfl)
      exact ⟨this.1, this.2, fun hb => by omega⟩
    · obtain ⟨F, G, hd, hv, hB⟩ := h
      refine ⟨F, G, hd.kept hg, hv, fun k hk => ⟨hB k hk, ?_⟩⟩
      rcases hk with e | e | ⟨s, b, hs, e | ⟨x, hx, e⟩⟩
      · rw [e]; exact hd.row.lt
      · rw [e]; exact hd.map.lt
      · rw [e]; exact (hd.lt s b hs).1
      · rw [e]; exact (hd.slc hs hx).2.1

  have HAR : Hid (∀ d mb n B w1, DV w1 w.heap.size d mb n false false 0 0 3 V4 B → From w w1 B → Calls Try.prog 18 #[.pointer (some ⟨d, 0, none⟩), .int .i64 0, .int .i64 0] w1 fun e w' => e = .returned (.tuple #[]) ∧ DV w' w.heap.size d mb n false true 0 0 3 V4 B ∧ From w w' B ∧ Kept w1 w' B) := by
    intro d mb n B w1 h hf
    refine (v_arm w.heap.size d mb n false false 0 0 3 0 0 V4 B w1 h (by omega)).mono ?_
    rintro e w' ⟨rfl, h1, h2⟩
    exact ⟨rfl, h1, hf.step h2, h2.1⟩
  have HRE : Hid (∀ d mb n B w1, DV w1 w.heap.size d mb n false true 0 0 3 V4 B → From w w1 B → Calls Try.prog 25 #[.pointer (some ⟨d, 0, none⟩), .string ⟨#[97]⟩, .string ⟨#[98]⟩] w1 fun e w' => e = .returned (.int .i64 60) ∧ DRow w' d mb true false 0 0 4 ∧ From w w' B ∧ Kept w1 w' B) := by
    intro d mb n B w1 h hf
    refine (v_renameLost w.heap.size d mb n 0 3 V4 B nmA nmB [1, 2, 3] 3 w1 h nameA nameBB V4_a (by omega) (by omega)).mono ?_
    rintro e w' ⟨rfl, h1, h2⟩
    exact ⟨rfl, h1.row, hf.step h2, h2.1⟩
  go_enter Try.func11, Try.ntmps11
  go_wp2_with fail
  refine HN.out.mono ?_
  rintro e w1 ⟨d, mb, B1, rfl, hd1, hf1⟩
  have HD1 : Hid (DV w1 w.heap.size d mb 0 false false 0 0 0 V0 B1) := hd1
  have HF1 : Hid (From w w1 B1) := hf1
  clear hd1 hf1 HN
  go_wp2_with fail
  refine (HA1.out d mb B1 w1 HD1.out HF1.out).mono ?_
  rintro e w2 ⟨rfl, n2, B2, hn2, hd2, hf2⟩
  have HD2 : Hid (DV w2 w.heap.size d mb n2 false false 0 0 1 V1 B2) := hd2
  have HF2 : Hid (From w w2 B2) := hf2
  clear hd2 hf2 HA1 HD1 HF1
  go_wp2_with fail
  refine (HS.out d mb n2 B2 w2 HD2.out HF2.out).mono ?_
  rintro e w3 ⟨rfl, B3, hd3, hf3⟩
  have HD3 : Hid (DV w3 w.heap.size d mb n2 false false 0 0 2 V2 B3) := hd3
  have HF3 : Hid (From w w3 B3) := hf3
  clear hd3 hf3 HS HD2 HF2
  go_wp2_with fail
  refine (HA2.out d mb n2 B3 w3 hn2 HD3.out HF3.out).mono ?_
  rintro e w4 ⟨rfl, n4, B4, hn4, hd4, hf4⟩
  have HD4 : Hid (DV w4 w.heap.size d mb n4 false false 0 0 3 V3 B4) := hd4
  have HF4 : Hid (From w w4 B4) := hf4
  clear hd4 hf4 HA2 HD3 HF3
  go_wp2_with fail
  refine (HO.out d mb n4 B4 w4 HD4.out HF4.out).mono ?_
  rintro e w5 ⟨rfl, hd5, hf5⟩
  have HD5 : Hid (DV w5 w.heap.size d mb n4 true false 0 0 3 V4 B4) := hd5
  have HF5 : Hid (From w w5 B4) := hf5
  clear hd5 hf5 HO HD4 HF4
  go_wp2_with fail
  refine (HA3.out d mb n4 B4 w5 HD5.out HF5.out).mono ?_
  rintro e w6 ⟨rfl, hd6, hf6⟩
  have HD6 : Hid (DV w6 w.heap.size d mb n4 true false 0 0 3 V4 B4) := hd6
  have HF6 : Hid (From w w6 B4) := hf6
  clear hd6 hf6 HA3 HD5 HF5
  go_wp2_with fail
  refine (HON.out d mb n4 B4 w6 HD6.out HF6.out).mono ?_
  rintro e w7 ⟨rfl, hd7, hf7⟩
  have HD7 : Hid (DV w7 w.heap.size d mb n4 false false 0 0 3 V4 B4) := hd7
  have HF7 : Hid (From w w7 B4) := hf7
  clear hd7 hf7 HON HD6 HF6
  go_wp2_with fail
  refine (HR.out d mb n4 B4 w7 HD7.out HF7.out).mono ?_
  rintro e w8 ⟨a8, c8, B8, rfl, hx8, hr8, hd8, hf8⟩
  have HX8 : Hid (∀ x, a8 = some x → x.block < w8.heap.size ∧ ¬ B8 x.block) := fun x hx => (hx8 x hx).2
  have HR8 : Hid (SRd byteE w8 a8 [1, 2, 3]) := hr8
  have HD8 : Hid (DV w8 w.heap.size d mb n4 false false 0 0 3 V4 B8) := hd8
  have HF8 : Hid (From w w8 B8) := hf8
  clear hx8 hr8 hd8 hf8 HR HD7 HF7
  go_wp2_with fail
  refine (HAR.out d mb n4 B8 w8 HD8.out HF8.out).mono ?_
  rintro e w9 ⟨rfl, hd9, hf9, hk9⟩
  have HD9 : Hid (DV w9 w.heap.size d mb n4 false true 0 0 3 V4 B8) := hd9
  have HF9 : Hid (From w w9 B8) := hf9
  have HR9 : Hid (SRd byteE w9 a8 [1, 2, 3]) := SRd.step (B' := B8) HR8.out hk9 HX8.out
  have HX9 : Hid (∀ x, a8 = some x → x.block < w9.heap.size ∧ ¬ B8 x.block) := fun x hx => ⟨Nat.lt_of_lt_of_le (HX8.out x hx).1 hk9.size, (HX8.out x hx).2⟩
  clear hd9 hf9 hk9 HAR HD8 HF8 HR8 HX8
  go_wp2_with fail
  refine (HRE.out d mb n4 B8 w9 HD9.out HF9.out).mono ?_
  rintro e w10 ⟨rfl, hr10, hf10, hk10⟩
  have HROW : Hid (DRow w10 d mb true false 0 0 4) := hr10
  have HF10 : Hid (From w w10 B8) := hf10
  have HR10 : Hid (SRd byteE w10 a8 [1, 2, 3]) := SRd.step (B' := B8) HR9.out hk10 HX9.out
  clear hr10 hf10 hk10 HRE HD9 HF9 HR9 HX9
  go_wp2_with fail
  refine (d_up d mb true false 0 0 4 w10 HROW.out).mono ?_
  rintro e w11 ⟨rfl, rfl⟩
  have HRL : Hid (Rd (w10.alloc (.cells #[.int .u8 1, .int .u8 2, .int .u8 3] 5)) (some ⟨w10.heap.size, 0, none⟩) [1, 2, 3]) := srd_rd (blit w10 [1, 2, 3]) (by simp)
  have HGL : Hid (w10.grownBy (w10.alloc (.cells #[.int .u8 1, .int .u8 2, .int .u8 3] 5)) none) := World.grownBy_alloc w10 _ none
  have HR11 : Hid (Rd (w10.alloc (.cells #[.int .u8 1, .int .u8 2, .int .u8 3] 5)) a8 [1, 2, 3]) := srd_rd (HR10.out.grown HGL.out (by simp)) (by simp)
  go_wp2_with fail
  refine (same_any a8 (some ⟨w10.heap.size, 0, none⟩) [1, 2, 3] [1, 2, 3] 3 3 c8 3 _ HR11.out HRL.out rfl rfl (by omega)).mono ?_
  rintro e w12 ⟨rfl, hg12⟩
  have htt : decide (([1, 2, 3] : List Int) = [1, 2, 3]) = true := by decide
  rw [htt]
  clear htt
  have HG12 : Hid (w10.grownBy w12 none) := HGL.out.trans hg12
  have HROW2 : Hid (DRow w12 d mb true false 0 0 4) := HROW.out.of_block (HG12.out.block d HROW.out.lt (by simp))
  clear hg12 HR11 HRL HR10
  go_wp2_with fail
  refine (d_writes d mb true false 0 0 4 w12 HROW2.out).mono ?_
  rintro e w13 ⟨rfl, rfl⟩
  go_wp2_with fail
  refine (v_listOff d mb false 0 0 4 _ w12 HROW2.out).mono ?_
  rintro e w14 ⟨rfl, hg14⟩
  have HG14 : Hid (w.grownBy w14 none) := (HF10.out.1.trans HG12.out).trans hg14
  clear hg14
  go_wp2
  go_ret
  exact ⟨rfl, HG14.out⟩
end Go.Proofs.Ytdnkdopjlobklaa
