/- Several texts in one: Wh, Wi, Bcap. -/
import Derived.Test.YtboamjhlaehoaaaGreatNy
import Derived.Test.YtboamjhlaehoaaaGreatMs
import Derived.Test.YtboamjhlaehoaaaGreatMt
import Derived.Test.YtboamjhlaehoaaaGreatMa
/- RingBytes: the walk. -/
namespace Go.Proofs.YtboamjhlaehoaaaGreat
open Go.RowKit
set_option linter.unusedVariables false
set_option maxRecDepth 20000

/-- What Encode answers. -/
def encQ (ms : List Mem) : Int := if ringOk ms = true then 0 else 130
def encX (E : Int) (n : Nat) (ms : List Mem) : List Int := if ringOk ms = true then encAll (nrs E n ms) else []
theorem rd_none (w : World) (a : Option Addr) : Rd w a [] := ⟨.inl rfl, by simp⟩
theorem enc_any {E : Int} {M : List Mem} {n c : Nat} {a : Option Addr} {raw : List MRow} {w : World} (hr : MsRd w a M raw) (hn : M.length = n) (hE : 0 ≤ E ∧ E ≤ 18446744073709551615) (ht : wfT M) (hz : n ≤ 3518437208800) (hz2 : ∀ s ∈ M, s.2.2.length ≤ 35184372088832) :
    Calls Tryz.prog 32 #[.agg #[.int .u64 E, .slice a n c]] w fun e w' => ∃ a' L c', e = .returned (.tuple #[.slice a' L c', .int .i64 (encQ M)]) ∧ Rd w' a' (encX E n M) ∧ (encX E n M).length = L ∧ L ≤ c' ∧ (∀ x, a' = some x → Typed w' x.block 5 ∧ w.heap.size ≤ x.block) ∧ (L : Int) ≤ 140737488355000 ∧ w.grownBy w' none := by
  unfold encQ encX
  cases ho : ringOk M with
  | true => simpa using enc_ok hr hn hE ho ht
  | false =>
    refine (f_encode E M raw a n c w hr hn hE ht hz hz2).mono ?_
    rintro e w' ⟨hg, ⟨hb, _⟩ | ⟨_, rfl⟩⟩
    · rw [ho] at hb; cases hb
    · exact ⟨none, 0, 0, by simp, by simpa using rd_none w' none, by simp, Nat.le_refl _, by simp, by decide, hg⟩
theorem renc_any {E : Int} {M : List Mem} {n c : Nat} {a : Option Addr} {raw : List MRow} {w : World} (hr : MsRd w a M raw) (hn : M.length = n) (hE : 0 ≤ E ∧ E ≤ 18446744073709551615) (ht : wfT M) (hz : n ≤ 3518437208800) (hz2 : ∀ s ∈ M, s.2.2.length ≤ 35184372088832) :
    Calls Tryz.prog 29 #[.agg #[.int .u64 E, .slice a n c]] w fun e w' => ∃ a' L c', e = .returned (.tuple #[.slice a' L c', .int .i64 (encQ M)]) ∧ Rd w' a' (encX E n M) ∧ (encX E n M).length = L ∧ w.grownBy w' none := by
  unfold encQ encX
  refine (r_encode E M raw a n c w hr hn hE ht hz hz2).mono ?_
  rintro e w' ⟨hg, ⟨ho, g, c', L, rfl, h1, h2⟩ | ⟨ho, rfl⟩⟩
  · rw [ho]
    exact ⟨some ⟨g, 0, none⟩, L, c', by simp, by simpa using h1, by simpa using h2, hg⟩
  · rw [ho]
    exact ⟨none, 0, 0, by simp, by simpa using rd_none w' none, by simp, hg⟩
/-- What Decode answers. -/
def dE (zs : List Int) : Int := if decC zs = 0 then (ringR zs).1 else 0
def dM (zs : List Int) : List Mem := if decC zs = 0 then (ringR zs).2.1 else []
theorem dM_small {zs : List Int} (hz : ∀ k, 0 ≤ zs.getD k 0 ∧ zs.getD k 0 ≤ 255) : (dM zs).length ≤ 16 ∧ ∀ m ∈ (dM zs), m.2.2.length ≤ 64 := by
  unfold dM
  split
  · exact ringR_small hz
  · simp
theorem dc_any {zs : List Int} {w w' : World} {e : Ending} (h : DcOut zs w e w') : ∃ a' c' raw', e = .returned (.tuple #[.agg #[.int .u64 (dE zs), .slice a' (dM zs).length c'], .int .i64 (decC zs)]) ∧ MsOwn w' w.heap.size (.slice a' (dM zs).length c') (dM zs) raw' ∧ w.grownBy w' none := by
  obtain ⟨E', a', n', c', rfl, hg, h1, h2⟩ := h
  unfold dE dM
  by_cases hq : decC zs = 0
  · obtain ⟨rfl, rfl, raw', h3⟩ := h1 hq
    rw [if_pos hq, if_pos hq]
    exact ⟨a', c', raw', rfl, h3, hg⟩
  · obtain ⟨rfl, rfl, rfl, rfl⟩ := h2 hq
    rw [if_neg hq, if_neg hq]
    exact ⟨none, 0, [], rfl, MsOwn.nil _ _, hg⟩
theorem dec_any {zs : List Int} {a : Option Addr} {L c : Nat} {w : World} (hr : Rd w a zs) (hL : zs.length = L) (hc : L ≤ c) (hs : (L : Int) ≤ 140737488355000) (ho : ∀ x, a = some x → Typed w x.block 5) :
    Calls Tryz.prog 33 #[.slice a L c] w fun e w' => ∃ a' c' raw', e = .returned (.tuple #[.agg #[.int .u64 (dE zs), .slice a' (dM zs).length c'], .int .i64 (decC zs)]) ∧ MsOwn w' w.heap.size (.slice a' (dM zs).length c') (dM zs) raw' ∧ w.grownBy w' none :=
  (f_decode w a L c zs hr hL hc hs ho (fun k => hr.byte k)).mono fun e w' h => dc_any h
theorem rdec_any {zs : List Int} {a : Option Addr} {L c : Nat} {w : World} (hr : Rd w a zs) (hL : zs.length = L) (hc : L ≤ c) (hs : L ≤ 1048576) (ho : ∀ x, a = some x → x.block < w.heap.size) :
    Calls Tryz.prog 30 #[.slice a L c] w fun e w' => ∃ a' c' raw', e = .returned (.tuple #[.agg #[.int .u64 (dE zs), .slice a' (dM zs).length c'], .int .i64 (decC zs)]) ∧ MsOwn w' w.heap.size (.slice a' (dM zs).length c') (dM zs) raw' ∧ w.grownBy w' none :=
  (r_decode w a L c zs hr hL hc hs ho (fun k => hr.byte k)).mono fun e w' h => dc_any h

set_option maxHeartbeats 8000000 in
theorem ringBytes_walk (E : Int) (a : Option Addr) (c : Nat) (raw : List MRow) (ms : List Mem) (b : Option Addr) (zs : List Int) (cb : Nat) (w : World) (hr : MsRd w a ms raw) (hnil : a = none → c = 0) (hE : 0 ≤ E ∧ E ≤ 18446744073709551615) (hz : ms.length ≤ 3518437208800) (hz2 : ∀ s ∈ ms, s.2.2.length ≤ 35184372088832) (hwf : wfT ms)
    (hb : Rd w b zs) (hbn : b = none → cb = 0) (hbl : zs.length ≤ 1048576) (hbc : zs.length ≤ cb) (hbb : ∀ x, b = some x → x.block < w.heap.size) :
    Calls Tryz.prog 5 #[.agg #[.int .u64 E, .slice a ms.length c], .slice b zs.length cb] w fun e w' => e = .returned (.bool true) ∧ w.grownBy w' none := by
  obtain ⟨n, en⟩ : ∃ n, ms.length = n := ⟨_, rfl⟩
  obtain ⟨L, eL⟩ : ∃ L, zs.length = L := ⟨_, rfl⟩
  rw [en] at hz ⊢
  rw [eL] at hbl hbc ⊢
  obtain ⟨N, eN⟩ : ∃ N, w.heap.size = N := ⟨_, rfl⟩
  have EN : Hid (w.heap.size = N) := eN
  obtain ⟨W, hW⟩ : ∃ W, w.alloc (.cells #[.int .u64 E, .slice a n c] 25) = W := ⟨_, rfl⟩
  have HW : Hid (w.alloc (.cells #[.int .u64 E, .slice a n c] 25) = W) := hW
  have HG : Hid (w.grownBy W none) := hW ▸ World.grownBy_alloc w _ none
  have HRB : Hid (RgBox W N E a n c ms raw) := by
    have h := RgBox.made (E := E) hr hnil en
    rw [hW, eN] at h
    exact h
  have HZR : Hid (Rd W b zs ∧ ∀ x, b = some x → x.block < W.heap.size) := ⟨hb.grown HG.out (by simp), fun x hx => Nat.lt_of_lt_of_le (hbb x hx) HG.out.size⟩
  have HZ2 : Hid (∀ s ∈ ms, s.2.2.length ≤ 35184372088832) := hz2
  have HWF : Hid (wfT ms) := hwf
  have HE : Hid (0 ≤ E ∧ E ≤ 18446744073709551615) := hE
  have HNM : Hid (ms.length = n) := en
  have HLZ : Hid (zs.length = L) := eL
  have HBN : Hid (b = none → cb = 0) := hbn
  have hsm := dM_small (zs := zs) (fun k => hb.byte k)
  obtain ⟨nD, enD⟩ : ∃ nD, (dM zs).length = nD := ⟨_, rfl⟩
  have HND : Hid ((dM zs).length = nD ∧ nD ≤ 16 ∧ ∀ m ∈ dM zs, m.2.2.length ≤ 64) := ⟨enD, by omega, hsm.2⟩
  have C1 := renc_any (E := E) (c := c) HRB.out.rd en hE hwf hz hz2
  clear hr hb hbb en eL eN hW hz2 hwf hE hsm enD hbn
  go_enter Tryz.func5, Tryz.ntmps5
  go_upto_region 1 with fail
  rw [HW.out, EN.out]
  obtain ⟨x0, x1⟩ := HRB.out.cells
  go_wp2_with fail
  refine C1.mono ?_
  rintro e w1 ⟨a1, M1, c1, rfl, r1, l1, g1⟩
  have H1 : Hid (W.grownBy w1 none ∧ Rd w1 a1 (encX E n ms) ∧ (encX E n ms).length = M1) := ⟨g1, r1, l1⟩
  have C2 := rdec_any (c := cb) (HZR.out.1.grown g1 (by simp)) HLZ.out hbc hbl (fun x hx => Nat.lt_of_lt_of_le (HZR.out.2 x hx) g1.size)
  rw [HND.out.1] at C2
  clear g1 r1 l1 C1 x0 x1
  go_wp2_with fail
  refine C2.mono ?_
  rintro e w2 ⟨a2, c2, raw2, rfl, m2, g2⟩
  have gA := World.grownBy_alloc w2 (.cells #[.int .u64 (dE zs), .slice a2 nD c2] 25) none
  have HB2 : Hid (RgBox (w2.alloc (.cells #[.int .u64 (dE zs), .slice a2 nD c2] 25)) w2.heap.size (dE zs) a2 nD c2 (dM zs) raw2) := RgBox.made m2.rd.1 m2.rd.2 HND.out.1
  have H2 : Hid (w1.grownBy (w2.alloc (.cells #[.int .u64 (dE zs), .slice a2 nD c2] 25)) none) := g2.trans gA
  obtain ⟨x0, x1⟩ := (HRB.out.grown (H1.out.1.trans H2.out)).cells
  have C3 := cp_any (E := E) (c := c) ((HRB.out.grown (H1.out.1.trans H2.out)).rd) HNM.out hz HZ2.out
  clear m2 g2 gA C2
  go_wp2_with fail
  generalize w2.alloc (.cells #[.int .u64 (dE zs), .slice a2 nD c2] 25) = W2 at *
  generalize w2.heap.size = B2 at *
  refine C3.mono ?_
  rintro e w3 ⟨a3, c3, raw3, rfl, m3, n3, g3⟩
  have H3 : Hid (W2.grownBy w3 none ∧ MsRd w3 a3 ms raw3 ∧ (a3 = none → c3 = 0)) := ⟨g3, m3, n3⟩
  have C4 := lend_any b zs cb w3 (HZR.out.1.grown ((H1.out.1.trans H2.out).trans g3) (by simp)) HBN.out (by rw [HLZ.out]; omega)
  rw [HLZ.out] at C4
  clear x0 x1 C3 m3 n3 g3
  go_wp2_with fail
  refine C4.mono ?_
  rintro e w4 ⟨g, c4, rfl, o4, g4⟩
  have gA := World.grownBy_alloc w4 (.cells #[.int .u64 E, .slice a3 n c3] 25) none
  have hge := o4.ge
  have HO4 : Hid (Own (w4.alloc (.cells #[.int .u64 E, .slice a3 n c3] 25)) w3.heap.size g (L + 2) c4 (zs ++ [201, 201])) := o4.kept gA (by simp)
  have HGE : Hid (w3.heap.size ≤ g ∧ g < (w4.alloc (.cells #[.int .u64 E, .slice a3 n c3] 25)).heap.size) := ⟨hge.1, Nat.lt_of_lt_of_le hge.2 gA.size⟩
  have HB4 : Hid (RgBox (w4.alloc (.cells #[.int .u64 E, .slice a3 n c3] 25)) w4.heap.size E a3 n c3 ms raw3) := RgBox.made (H3.out.2.1.grown g4) H3.out.2.2 HNM.out
  have H4 : Hid (w3.grownBy (w4.alloc (.cells #[.int .u64 E, .slice a3 n c3] 25)) none) := g4.trans gA
  have C5 := enc_any (E := E) (c := c3) HB4.out.rd HNM.out HE.out HWF.out hz HZ2.out
  obtain ⟨y0, y1⟩ := HB4.out.cells
  clear o4 g4 gA hge C4
  go_wp2_with fail
  generalize w4.alloc (.cells #[.int .u64 E, .slice a3 n c3] 25) = W4 at *
  generalize w4.heap.size = B4 at *
  refine C5.mono ?_
  rintro e w5 ⟨a5, M5, c5, rfl, r5, l5, k5, t5, z5, g5⟩
  have H5 : Hid (W4.grownBy w5 none ∧ Rd w5 a5 (encX E n ms) ∧ (encX E n ms).length = M5 ∧ M5 ≤ c5 ∧ (∀ x, a5 = some x → Typed w5 x.block 5 ∧ W4.heap.size ≤ x.block) ∧ (M5 : Int) ≤ 140737488355000) := ⟨g5, r5, l5, k5, t5, z5⟩
  have HO5 : Hid (Own w5 w3.heap.size g (L + 2) c4 (zs ++ [201, 201])) := HO4.out.kept g5 (by simp)
  have C6 := dec_any (zs := zs) (a := some ⟨g, 0, none⟩) (L := L) (c := c4) (w := w5) (HO5.out.headR (by rw [HLZ.out]; rfl)) HLZ.out (by have := HO5.out.cap.1; omega) (by omega) (fun x hx => by
    cases hx
    rcases HO5.out.1.2 with ⟨h', _⟩ | ⟨g', cap, cur, h', _, h2, _⟩
    · simp at h'
    · simp only [Value.slice.injEq, Option.some.injEq, Addr.mk.injEq, and_true, true_and] at h'
      obtain ⟨rfl, _⟩ := h'
      exact ⟨cur, h2⟩)
  rw [HND.out.1] at C6
  clear y0 y1 C5 r5 l5 k5 t5 z5 g5
  go_wp2_with fail
  refine C6.mono ?_
  rintro e w6 ⟨a6, c6, raw6, rfl, m6, g6⟩
  have gA := World.grownBy_alloc w6 (.cells #[.int .u64 (dE zs), .slice a6 nD c6] 25) none
  have HB6 : Hid (RgBox (w6.alloc (.cells #[.int .u64 (dE zs), .slice a6 nD c6] 25)) w6.heap.size (dE zs) a6 nD c6 (dM zs) raw6) := RgBox.made m6.rd.1 m6.rd.2 HND.out.1
  have HM6 : Hid (MsOwn (w6.alloc (.cells #[.int .u64 (dE zs), .slice a6 nD c6] 25)) w5.heap.size (.slice a6 nD c6) (dM zs) raw6 ∧ w5.heap.size ≤ w6.heap.size) := ⟨m6.kept gA (by simp), g6.size⟩
  have H6 : Hid (w5.grownBy (w6.alloc (.cells #[.int .u64 (dE zs), .slice a6 nD c6] 25)) none) := g6.trans gA
  have HB46 : Hid (RgBox (w6.alloc (.cells #[.int .u64 (dE zs), .slice a6 nD c6] 25)) B4 E a3 n c3 ms raw3) := HB4.out.grown (H5.out.1.trans H6.out)
  have HRB6 : Hid (RgBox (w6.alloc (.cells #[.int .u64 (dE zs), .slice a6 nD c6] 25)) N E a n c ms raw) := HRB.out.grown (((((H1.out.1.trans H2.out).trans H3.out.1).trans H4.out).trans H5.out.1).trans H6.out)
  have C7 := rsame E E a3 a raw3 raw ms ms n n c3 c _ HB46.out.rd HRB6.out.rd HNM.out HNM.out (by omega) HZ2.out
  rw [show decide (E = E ∧ ms = ms) = true by simp] at C7
  obtain ⟨y0, y1⟩ := HB46.out.cells
  obtain ⟨x0, x1⟩ := HRB6.out.cells
  clear m6 g6 gA C6 HB4
  go_wp2_with fail
  generalize w6.alloc (.cells #[.int .u64 (dE zs), .slice a6 nD c6] 25) = W6 at *
  obtain ⟨B6, eB6⟩ : ∃ B6, w6.heap.size = B6 := ⟨_, rfl⟩
  rw [eB6] at HB6 HM6 ⊢
  clear eB6
  refine C7.mono ?_
  rintro e w7 ⟨rfl, g7⟩
  have H7 : Hid (W6.grownBy w7 none) := g7
  have HO7 : Hid (Own w7 w3.heap.size g (L + 2) c4 (zs ++ [201, 201])) := (HO5.out.kept H6.out (by simp)).kept g7 (by simp)
  have HZ7 : Hid (Rd w7 b zs) := HZR.out.1.grown ((((((H1.out.1.trans H2.out).trans H3.out.1).trans H4.out).trans H5.out.1).trans H6.out).trans g7) (by simp)
  have C8 := kept_any b zs w3.heap.size g c4 cb w7 HZ7.out (by rw [HLZ.out]; exact HO7.out) (by rw [HLZ.out]; omega)
  rw [HLZ.out] at C8
  clear y0 y1 x0 x1 C7 g7 HB46 HRB6
  go_wp2_with fail
  refine C8.mono ?_
  rintro e w8 ⟨rfl, g8⟩
  have s3 : w1.heap.size ≤ g := by have h1 := H2.out.size; have h2 := H3.out.1.size; have h3 := HGE.out.1; omega
  have s2 : W2.heap.size ≤ g := by have h2 := H3.out.1.size; have h3 := HGE.out.1; omega
  have s5 : g < w5.heap.size := by have h2 := H5.out.1.size; have h3 := HGE.out.2; omega
  have gg27 : W2.grownBy w7 none := (((H3.out.1.trans H4.out).trans H5.out.1).trans H6.out).trans H7.out
  have gg28 : W2.grownBy w8 none := gb_trans gg27 g8 (fun k hk => .inl (by cases hk; exact s2))
  have gg18 : w1.grownBy w8 none := gb_trans (H2.out.trans gg27) g8 (fun k hk => .inl (by cases hk; exact s3))
  have HG8 : Hid (W.grownBy w8 none) := H1.out.1.trans gg18
  have HW8 : Hid (Rd w8 a1 (encX E n ms)) := H1.out.2.1.grown gg18 (by simp)
  have HC8 : Hid (Rd w8 a5 (encX E n ms) ∧ ∀ x, a5 = some x → Typed w8 x.block 5) := by
    have gg57 := H6.out.trans H7.out
    have hne : ∀ x, a5 = some x → x.block ≠ g := fun x hx => by have := (H5.out.2.2.2.2.1 x hx).2; have := HGE.out.2; omega
    refine ⟨(H5.out.2.1.grown gg57 (by simp)).grown g8 (fun x hx e => hne x hx (Option.some.inj e)), fun x hx => ?_⟩
    have ht := (H5.out.2.2.2.2.1 x hx).1
    have hlt := typed_lt ht
    obtain ⟨cs, hcs⟩ := ht
    refine ⟨cs, ?_⟩
    rw [g8.block _ (Nat.lt_of_lt_of_le hlt gg57.size) (fun e => hne x hx (Option.some.inj e)), gg57.block _ hlt (by simp)]
    exact hcs
  have HB28 : Hid (RgBox w8 B2 (dE zs) a2 nD c2 (dM zs) raw2) := HB2.out.grown gg28
  have HRB8 : Hid (RgBox w8 N E a n c ms raw) := HRB.out.grown HG8.out
  have HD8 : Hid (RgBox w8 B6 (dE zs) a6 nD c6 (dM zs) raw6) := by
    have hm := (HM6.out.1.kept H7.out (by simp)).kept g8 (fun k hk => by cases hk; exact .inl s5)
    have hb := (HB6.out.grown H7.out).box
    refine ⟨?_, hm.rd.1, hm.rd.2, HND.out.1⟩
    rw [g8.block _ (Array.getElem?_eq_some_iff.1 hb).1 (fun e => by have h1 := HM6.out.2; have h2 := Option.some.inj e; omega)]
    exact hb
  have HQ : Hid (M1 = M5) := by have h1 := H1.out.2.2; have h2 := H5.out.2.2.1; show _ = _; omega
  have HX5 : Hid ((encX E n ms).length = M5 ∧ M5 ≤ c5 ∧ (M5 : Int) ≤ 140737488355000) := ⟨H5.out.2.2.1, H5.out.2.2.2.1, H5.out.2.2.2.2.2⟩
  clear g8 s3 s2 s5 gg27 gg28 gg18 C8 H1 H2 H3 H4 H5 H6 H7 HO4 HO5 HO7 HZ7 HB2 HB6 HM6 HRB HZR HGE
  have C9 := same_any a5 a1 (encX E n ms) (encX E n ms) M5 M1 c5 c1 w8 HC8.out.1 HW8.out HX5.out.1 (by rw [HQ.out]; exact HX5.out.1) (by have := HX5.out.2.2; omega)
  rw [show decide (encX E n ms = encX E n ms) = true by simp] at C9
  obtain ⟨q, eq⟩ : ∃ q, encQ ms = q := ⟨_, rfl⟩
  have HEQ : Hid (encQ ms = q) := eq
  rw [eq]
  obtain ⟨dq, edq⟩ : ∃ dq, decC zs = dq := ⟨_, rfl⟩
  rw [edq]
  have t1 : (q != q) = false := by simp
  have t2 : (dq != dq) = false := by simp
  clear eq edq
  go_wp2_with fail
  refine C9.mono ?_
  rintro e w9 ⟨rfl, g9⟩
  have HG9 : Hid (W.grownBy w9 none) := HG8.out.trans g9
  have HC9 : Hid (Rd w9 a5 (encX E n ms) ∧ ∀ x, a5 = some x → Typed w9 x.block 5) := ⟨HC8.out.1.grown g9 (by simp), fun x hx => by
    have ht := HC8.out.2 x hx
    have hlt := typed_lt ht
    obtain ⟨cs, hcs⟩ := ht
    exact ⟨cs, by rw [g9.block _ hlt (by simp)]; exact hcs⟩⟩
  have HB29 : Hid (RgBox w9 B2 (dE zs) a2 nD c2 (dM zs) raw2) := HB28.out.grown g9
  have HRB9 : Hid (RgBox w9 N E a n c ms raw) := HRB8.out.grown g9
  have HD9 : Hid (RgBox w9 B6 (dE zs) a6 nD c6 (dM zs) raw6) := HD8.out.grown g9
  clear g9 C9 HG8 HC8 HW8 HB28 HRB8 HD8
  have C10 := rsame (dE zs) (dE zs) a6 a2 raw6 raw2 (dM zs) (dM zs) nD nD c6 c2 w9 HD9.out.rd HB29.out.rd HND.out.1 HND.out.1 (by have := HND.out.2.1; omega) (fun s hs => by have := HND.out.2.2 s hs; omega)
  rw [show decide (dE zs = dE zs ∧ dM zs = dM zs) = true by simp] at C10
  obtain ⟨x0, x1⟩ := HD9.out.cells
  obtain ⟨y0, y1⟩ := HB29.out.cells
  go_wp2_with fail
  refine C10.mono ?_
  rintro e w10 ⟨rfl, g10⟩
  have HG10 : Hid (W.grownBy w10 none) := HG9.out.trans g10
  have HC10 : Hid (Rd w10 a5 (encX E n ms) ∧ ∀ x, a5 = some x → Typed w10 x.block 5) := ⟨HC9.out.1.grown g10 (by simp), fun x hx => by
    have ht := HC9.out.2 x hx
    have hlt := typed_lt ht
    obtain ⟨cs, hcs⟩ := ht
    exact ⟨cs, by rw [g10.block _ hlt (by simp)]; exact hcs⟩⟩
  have HRB10 : Hid (RgBox w10 N E a n c ms raw) := HRB9.out.grown g10
  clear g10 C10 HG9 HC9 HB29 HRB9 HD9 x0 x1 y0 y1
  have HAW : Hid (∀ u, Calls Tryz.prog 24 #[] u fun e w' => e = .returned (.bool true) ∧ u.grownBy w' none) := r_awake
  by_cases hq : q = 0
  · subst hq
    have hok : ringOk ms = true := by
      have h := HEQ.out
      unfold encQ at h
      cases ho : ringOk ms with
      | true => rfl
      | false => rw [ho] at h; simp at h
    obtain ⟨d1, d2⟩ := dec_enc (n := n) HE.out hok HWF.out HNM.out
    have ex : encX E n ms = encAll (nrs E n ms) := by unfold encX; rw [if_pos hok]
    have C11 := dec_any (zs := encX E n ms) (c := c5) HC10.out.1 HX5.out.1 HX5.out.2.1 HX5.out.2.2 HC10.out.2
    have e1 : dE (encX E n ms) = E := by unfold dE; rw [ex, if_pos d2, d1]
    have e2 : dM (encX E n ms) = ms := by unfold dM; rw [ex, if_pos d2, d1]
    rw [e1, e2, ex, d2, HNM.out] at C11
    clear d1 d2 ex e1 e2 hok
    go_wp2_with fail
    refine C11.mono ?_
    rintro e w11 ⟨a7, c7, raw7, rfl, m7, g11⟩
    have gA := World.grownBy_alloc w11 (.cells #[.int .u64 E, .slice a7 n c7] 25) none
    have HB7 : Hid (RgBox (w11.alloc (.cells #[.int .u64 E, .slice a7 n c7] 25)) w11.heap.size E a7 n c7 ms raw7) := RgBox.made m7.rd.1 m7.rd.2 HNM.out
    have HR11 : Hid (RgBox (w11.alloc (.cells #[.int .u64 E, .slice a7 n c7] 25)) N E a n c ms raw) := HRB10.out.grown (g11.trans gA)
    have HG11 : Hid (W.grownBy (w11.alloc (.cells #[.int .u64 E, .slice a7 n c7] 25)) none) := HG10.out.trans (g11.trans gA)
    have C12 := rsame E E a7 a raw7 raw ms ms n n c7 c _ HB7.out.rd HR11.out.rd HNM.out HNM.out (by omega) HZ2.out
    rw [show decide (E = E ∧ ms = ms) = true by simp] at C12
    obtain ⟨x0, x1⟩ := HB7.out.cells
    obtain ⟨y0, y1⟩ := HR11.out.cells
    clear m7 g11 gA C11
    go_wp2_with fail
    generalize w11.alloc (.cells #[.int .u64 E, .slice a7 n c7] 25) = W11 at *
    refine C12.mono ?_
    rintro e w12 ⟨rfl, g12⟩
    have HG12 : Hid (W.grownBy w12 none) := HG11.out.trans g12
    clear g12 x0 x1 y0 y1
    go_wp2_with (go_at_call 24; refine (HAW.out _).mono ?_; rintro e w13 ⟨rfl, g13⟩)
    go_ret
    exact ⟨rfl, (HG.out.trans HG12.out).trans g13⟩
  · have q1 : (q == 0) = false := by simpa using hq
    clear hq
    go_wp2_with (go_at_call 24; refine (HAW.out _).mono ?_; rintro e w13 ⟨rfl, g13⟩)
    go_ret
    exact ⟨rfl, (HG.out.trans HG10.out).trans g13⟩
end Go.Proofs.YtboamjhlaehoaaaGreat

/- Where bytes that come in lie. -/
namespace Go.Proofs.YtboamjhlaehoaaaGreat
open Go.ChangeShapes Go.WideShapes Go.ChangeAt Go.RowKit
set_option linter.unusedVariables false
set_option maxRecDepth 20000

theorem okWide_block {W : World} {base : Nat} {x : Addr} {L c : Nat} (h : Value.okWide Tryz.prog W .any base 49 (.slice (some x) L c)) : x.block < W.heap.size := by
  unfold Value.okWide at h
  simp only [Tryz.underlying49] at h
  unfold Cell.okWide at h
  simp only [Tryz.underlying49] at h
  unfold Cell.ok at h
  simp only [Tryz.underlying49] at h
  obtain ⟨_, _, _, _, row, cells, hs, _⟩ := h
  unfold World.shape? at hs
  by_cases hl : x.block < W.heap.size
  · exact hl
  · rw [Array.getElem?_eq_none (by omega)] at hs
    simp at hs
end Go.Proofs.YtboamjhlaehoaaaGreat

/- A slice that comes in has no more bytes than its capacity; what the bound of the second form gives. -/
namespace Go.Proofs.YtboamjhlaehoaaaGreat
open Go.ChangeShapes Go.WideShapes Go.ChangeAt Go.RowKit
set_option maxRecDepth 20000

theorem open_cap {H : Type} {enc : TypeId × Value → H} {W : World} {a0 : Option Addr} {len0 cap0 : Nat} {d0 : DataW H} {p0 : List MemPlace}
    (h0 : DataW.Trod enc Tryz.prog W 0 (fun _ => true) true 49 (.slice a0 len0 cap0) d0 p0) : len0 ≤ cap0 := by
  obtain ⟨fuel, hf⟩ := h0
  rcases open_ints Tryz.underlying49 Tryz.underlying5 cells5 hf with ⟨hcs, _⟩ | ⟨x, l, c, zs, hcs, _, hl, hm, hz, hx, hcell, hwz⟩
  · simp [Value.cells] at hcs
    obtain ⟨rfl, rfl, rfl⟩ := hcs
    exact Nat.le_refl _
  · simp [Value.cells] at hcs
    obtain ⟨rfl, rfl, rfl⟩ := hcs
    exact hl

theorem bulk_one {H : Type} (d : DataW H) : 1 ≤ Rows.uptoBulk d := by
  cases d with
  | lit l => cases l <;> simp [Rows.uptoBulk]
  | _ => simp [Rows.uptoBulk]
theorem bulk_len {H : Type} (l : List (DataW H)) : l.length ≤ Rows.uptoBulkAll l := by
  induction l with
  | nil => simp [Rows.uptoBulkAll]
  | cons x r ih => have := bulk_one x; simp only [Rows.uptoBulkAll, List.length_cons]; omega
theorem open_bulk {H : Type} {enc : TypeId × Value → H} {W : World} {a0 : Option Addr} {len0 cap0 : Nat} {d0 : DataW H} {p0 : List MemPlace}
    (h0 : DataW.Trod enc Tryz.prog W 0 (fun _ => true) true 49 (.slice a0 len0 cap0) d0 p0) : len0 ≤ Rows.uptoBulk d0 := by
  obtain ⟨fuel, hf⟩ := h0
  rcases open_ints Tryz.underlying49 Tryz.underlying5 cells5 hf with ⟨hcs, _⟩ | ⟨x, l, c, zs, hcs, _, hl, hm, hz, hx, hcell, hwz⟩
  · simp [Value.cells] at hcs
    obtain ⟨rfl, rfl, rfl⟩ := hcs
    exact Nat.zero_le _
  · simp [Value.cells] at hcs
    obtain ⟨rfl, rfl, rfl⟩ := hcs
    simp only [Prod.mk.injEq] at hx
    obtain ⟨rfl, rfl⟩ := hx
    simp only [if_true] at hz
    simp only [Rows.uptoBulk]
    refine Nat.le_trans ?_ (Nat.le_succ_of_le (Nat.le_add_right_of_le (bulk_len _)))
    simp only [lits, List.length_map, List.length_take]
    omega
theorem bulk_str {H : Type} (s : ByteArray) : Rows.uptoBulk (DataW.lit (H := H) (.string s.data.toList)) = s.size + 1 := by
  simp only [Rows.uptoBulk]
  rw [Array.length_toList]
  rfl
end Go.Proofs.YtboamjhlaehoaaaGreat

