/- Several texts in one: Vm. -/
import Derived.Test.YtaljjemickonaaaGreatNt
import Derived.Deep.CutRange
/- Rings: RingChanges, walked. -/
namespace Go.Proofs.YtaljjemickonaaaGreat
open Go.RowKit
set_option linter.unusedVariables false
set_option maxRecDepth 20000

/-- The two arrays of the law. -/
structure GA (Z : World) (Bg Bb : Nat) (g b : Array Value) : Prop where
  got : Z.heap[Bg]? = some (.cells g 27 (0, 0))
  bad : Z.heap[Bb]? = some (.cells b 29 (0, 0))
theorem GA.grown {Z Z' : World} {Bg Bb : Nat} {g b : Array Value} (h : GA Z Bg Bb g b) (hg : Z.grownBy Z' none) : GA Z' Bg Bb g b :=
  ⟨by rw [hg.block Bg (Array.getElem?_eq_some_iff.1 h.got).1 (by simp)]; exact h.got, by rw [hg.block Bb (Array.getElem?_eq_some_iff.1 h.bad).1 (by simp)]; exact h.bad⟩
theorem GA.md {Z Z' : World} {Bg Bb b2 h2 : Nat} {g b : Array Value} (h : GA Z Bg Bb g b) (hm : Md b2 h2 Z Z') (h1 : (Bg < b2 ∨ h2 ≤ Bg) ∧ (Bb < b2 ∨ h2 ≤ Bb)) : GA Z' Bg Bb g b :=
  ⟨by rw [hm.block Bg (Array.getElem?_eq_some_iff.1 h.got).1 h1.1]; exact h.got, by rw [hm.block Bb (Array.getElem?_eq_some_iff.1 h.bad).1 h1.2]; exact h.bad⟩
theorem GA.put {Z : World} {Bg Bb i l : Nat} {g b : Array Value} (h : GA Z Bg Bb g b) (hne : Bg ≠ Bb) (x y z : Value) : GA (((Z.setCell ⟨Bg, i, none⟩ x).setCell ⟨Bg, i + 1, none⟩ y).setCell ⟨Bb, l, none⟩ z) Bg Bb ((g.setIfInBounds i x).setIfInBounds (i + 1) y) (b.setIfInBounds l z) := by
  have h1 : (Z.setCell ⟨Bg, i, none⟩ x).heap[Bg]? = some (.cells (g.setIfInBounds i x) 27 (0, 0)) := by rw [setCell_eq_setRow Z Bg i g 27 (0, 0) x h.got, setRow_heap Z Bg g _ 27 _ h.got]
  have h2 : ((Z.setCell ⟨Bg, i, none⟩ x).setCell ⟨Bg, i + 1, none⟩ y).heap[Bg]? = some (.cells ((g.setIfInBounds i x).setIfInBounds (i + 1) y) 27 (0, 0)) := by rw [setCell_eq_setRow _ Bg (i + 1) _ 27 (0, 0) y h1, setRow_heap _ Bg _ _ 27 _ h1]
  have h3 : ((Z.setCell ⟨Bg, i, none⟩ x).setCell ⟨Bg, i + 1, none⟩ y).heap[Bb]? = some (.cells b 29 (0, 0)) := by rw [set_other _ (Ne.symm hne), set_other _ (Ne.symm hne)]; exact h.bad
  exact ⟨by rw [set_other _ hne]; exact h2, by rw [setCell_eq_setRow _ Bb l _ 29 (0, 0) z h3, setRow_heap _ Bb _ _ 29 _ h3]⟩
/-- What one answer is, in the law's memory. -/
def Got (Z : World) (bs hi : Nat) (a : Option Addr) (n c : Nat) (M : List Mem) (raw : List MRow) : Prop := MsOwn Z bs (.slice a n c) M raw ∧ SpR Z bs hi a n c raw
theorem Got.grown {Z Z' : World} {bs hi : Nat} {a : Option Addr} {n c : Nat} {M : List Mem} {raw : List MRow} (h : Got Z bs hi a n c M raw) (hg : Z.grownBy Z' none) : Got Z' bs hi a n c M raw :=
  ⟨h.1.kept hg (by simp), h.2.md (Md.of (base := hi) (hi := hi) hg (by simp)) (.inl (Nat.le_refl _))⟩
theorem Got.md {Z Z' : World} {bs hi b2 h2 : Nat} {a : Option Addr} {n c : Nat} {M : List Mem} {raw : List MRow} (h : Got Z bs hi a n c M raw) (hm : Md b2 h2 Z Z') (hd : h2 ≤ bs) : Got Z' bs hi a n c M raw :=
  ⟨h.1.stay (fun k h1 h3 => hm.block k h3 (.inr (by omega))), h.2.md hm (.inr hd)⟩
theorem puts_gb (Z : World) (Bg Bb i l : Nat) (x y z : Value) {w : World} (hg : w.grownBy Z none) (h1 : w.heap.size ≤ Bg) (h2 : w.heap.size ≤ Bb) : w.grownBy (((Z.setCell ⟨Bg, i, none⟩ x).setCell ⟨Bg, i + 1, none⟩ y).setCell ⟨Bb, l, none⟩ z) none :=
  gb_trans (gb_trans hg (gb_trans (gb_set (g := Bg) rfl) (gb_set (g := Bg) rfl) (fun j hj => .inr hj)) (fun k hk => .inl (by cases hk; exact h1))) (gb_set (g := Bb) rfl) (fun k hk => .inl (by cases hk; exact h2))
theorem puts_md (Z : World) (Bg Bb i l : Nat) (x y z : Value) (h : Bg < Bb) : Md Bg (Bb + 1) Z (((Z.setCell ⟨Bg, i, none⟩ x).setCell ⟨Bg, i + 1, none⟩ y).setCell ⟨Bb, l, none⟩ z) :=
  (Md.of (gb_trans (gb_set (g := Bg) rfl) (gb_set (g := Bg) rfl) (fun j hj => .inr hj)) (fun k hk => by cases hk; omega)).trans (Md.of (gb_set (g := Bb) rfl) (fun k hk => by cases hk; omega))
theorem md_gb {w Y u : World} {b h : Nat} (hg : w.grownBy Y none) (hm : Md b h Y u) (hb : w.heap.size ≤ b) : w.grownBy u none :=
  ⟨hm.os.trans hg.os, hm.tape.trans hg.tape, hm.output.trans hg.output, Nat.le_trans hg.size hm.size, fun k hk _ => (hm.block k (Nat.lt_of_lt_of_le hk hg.size) (.inl (by omega))).trans (hg.block k hk (by simp))⟩
set_option maxHeartbeats 32000000 in
theorem changes_walk (E : Int) (a : Option Addr) (n c : Nat) (raw : List MRow) (ms : List Mem) (id : Int) (w : World) (hr : MsRd w a ms raw) (hnil : a = none → c = 0) (hE : 0 ≤ E ∧ E ≤ 18446744073709551615) (hn : ms.length = n) (hz : n ≤ 3518437208800) (hz2 : ∀ s ∈ ms, s.2.2.length ≤ 35184372088000) :
    Calls Tryz.prog 3 #[.agg #[.int .u64 E, .slice a n c], .int .i64 id] w fun e w' => e = .returned (.bool true) ∧ w.grownBy w' none := by
  have hz3 : ∀ s ∈ ms, s.2.2.length ≤ 35184372088832 := fun s hs => by have := hz2 s hs; omega
  have AW : Hid (∀ u, Calls Tryz.prog 24 #[] u fun e w' => e = .returned (.bool true) ∧ u.grownBy w' none) := r_awake
  have HR : Hid (MsRd w a ms raw) := hr
  have HN : Hid (ms.length = n) := hn
  have HNIL : Hid (a = none → c = 0) := hnil
  have CP : Hid (∀ u a c raw, MsRd u a ms raw → Calls Tryz.prog 9 #[.agg #[.int .u64 E, .slice a n c]] u fun e w' => ∃ a' c' raw', e = .returned (.agg #[.int .u64 E, .slice a' n c']) ∧ MsOwn w' u.heap.size (.slice a' n c') ms raw' ∧ u.grownBy w' none) := fun u a c raw h => rcopy E a raw ms n c u h hn (by omega) hz3
  have HZ2 : Hid (∀ s ∈ ms, s.2.2.length ≤ 35184372088000) := hz2
  have GO0 : Hid (∀ u a c raw, MsRd u a ms raw → (a = none → c = 0) → Calls Tryz.prog 10 #[.agg #[.int .u64 E, .slice a n c], .int .i64 id] u fun e w' => GoOut 0 E ms id u e w') := fun u a c raw h h1 => (f_chg0 E ms raw id a n c u h hn h1 hE hz hz3).mono fun e w' h => go_of h
  have RC0 : Hid (∀ u a c raw, MsRd u a ms raw → Calls Tryz.prog 23 #[.agg #[.int .u64 E, .slice a n c], .int .i64 id, .int .i64 0, .int .i64 1] u fun e w' => RcOut 0 E ms id u e w') := fun u a c raw h => r_change0 E ms raw id a n c u h hn hE hz hz3
  have SML0 : Hid ((rM 0 E ms id).length ≤ 17 ∧ ∀ m ∈ rM 0 E ms id, m.2.2.length ≤ 64) := rM_small 0 E ms id (by omega)
  have GO1 : Hid (∀ u a c raw, MsRd u a ms raw → (a = none → c = 0) → Calls Tryz.prog 11 #[.agg #[.int .u64 E, .slice a n c], .int .i64 id] u fun e w' => GoOut 1 E ms id u e w') := fun u a c raw h h1 => (f_chg1 E ms raw id a n c u h hn h1 hE hz hz3).mono fun e w' h => go_of h
  have RC1 : Hid (∀ u a c raw, MsRd u a ms raw → Calls Tryz.prog 23 #[.agg #[.int .u64 E, .slice a n c], .int .i64 id, .int .i64 1, .int .i64 2] u fun e w' => RcOut 1 E ms id u e w') := fun u a c raw h => r_change1 E ms raw id a n c u h hn hE hz hz3
  have SML1 : Hid ((rM 1 E ms id).length ≤ 17 ∧ ∀ m ∈ rM 1 E ms id, m.2.2.length ≤ 64) := rM_small 1 E ms id (by omega)
  have GO2 : Hid (∀ u a c raw, MsRd u a ms raw → (a = none → c = 0) → Calls Tryz.prog 12 #[.agg #[.int .u64 E, .slice a n c], .int .i64 id] u fun e w' => GoOut 2 E ms id u e w') := fun u a c raw h h1 => (f_chg2 E ms raw id a n c u h hn h1 hE hz hz3).mono fun e w' h => go_of h
  have RC2 : Hid (∀ u a c raw, MsRd u a ms raw → Calls Tryz.prog 23 #[.agg #[.int .u64 E, .slice a n c], .int .i64 id, .int .i64 2, .int .i64 3] u fun e w' => RcOut 2 E ms id u e w') := fun u a c raw h => r_change2 E ms raw id a n c u h hn hE hz hz3
  have SML2 : Hid ((rM 2 E ms id).length ≤ 17 ∧ ∀ m ∈ rM 2 E ms id, m.2.2.length ≤ 64) := rM_small 2 E ms id (by omega)
  have GO3 : Hid (∀ u a c raw, MsRd u a ms raw → (a = none → c = 0) → Calls Tryz.prog 13 #[.agg #[.int .u64 E, .slice a n c], .int .i64 id] u fun e w' => GoOut 3 E ms id u e w') := fun u a c raw h h1 => (f_chg3 E ms raw id a n c u h hn h1 hE hz hz3).mono fun e w' h => go_of h
  have RC3 : Hid (∀ u a c raw, MsRd u a ms raw → Calls Tryz.prog 23 #[.agg #[.int .u64 E, .slice a n c], .int .i64 id, .int .i64 3, .int .i64 0] u fun e w' => RcOut 3 E ms id u e w') := fun u a c raw h => r_change3 E ms raw id a n c u h hn hE hz hz3
  have SML3 : Hid ((rM 3 E ms id).length ≤ 17 ∧ ∀ m ∈ rM 3 E ms id, m.2.2.length ≤ 64) := rM_small 3 E ms id (by omega)
  have CK1 : Hid (∀ u a c raw, MsRd u a ms raw → Calls Tryz.prog 15 #[.agg #[.int .u64 E, .slice a n c]] u fun e w' => e = .returned (.int .i64 (chkC ms)) ∧ u.grownBy w' none) := fun u a c raw h => f_check E ms raw a n c u h hn hz hz3
  have CK2 : Hid (∀ u a c raw, MsRd u a ms raw → Calls Tryz.prog 16 #[.agg #[.int .u64 E, .slice a n c]] u fun e w' => e = .returned (.int .i64 (chkC ms)) ∧ u.grownBy w' none) := fun u a c raw h => r_check E ms raw a n c u h hn hz hz3
  have ST1 : Hid (∀ u a c raw, MsRd u a ms raw → Calls Tryz.prog 17 #[.agg #[.int .u64 E, .slice a n c], .int .i64 id] u fun e w' => e = .returned (.int .i64 (stOf ms id)) ∧ u.grownBy w' none) := fun u a c raw h => f_state E ms raw id a n c u h hn hz hz3
  have ST2 : Hid (∀ u a c raw, MsRd u a ms raw → Calls Tryz.prog 18 #[.agg #[.int .u64 E, .slice a n c], .int .i64 id] u fun e w' => e = .returned (.int .i64 (stOf ms id)) ∧ u.grownBy w' none) := fun u a c raw h => r_state E ms raw a n c id u h hn hz hz3
  have SM : Hid (∀ u a b c d ra rb, MsRd u a ms ra → MsRd u b ms rb → Calls Tryz.prog 14 #[.agg #[.int .u64 E, .slice a n c], .agg #[.int .u64 E, .slice b n d]] u fun e w' => e = .returned (.bool true) ∧ u.grownBy w' none) := fun u a b c d ra rb h1 h2 => by
    refine (rsame E E a b ra rb ms ms n n c d u h1 h2 hn hn (by omega) hz3).mono ?_
    rintro e w' ⟨rfl, h⟩
    exact ⟨by simp, h⟩
  have TK1 : Hid (∀ u, Calls Tryz.prog 20 #[.int .i64 id] u fun e w' => ∃ a c, e = .returned (.slice a (tokL id).length c) ∧ SRd wordE w' a (tokL id) ∧ u.grownBy w' none) := fun u => (g_tokens id u).mono fun e w' ⟨a, c, h1, h2, h3⟩ => ⟨a, c, h1, SOwn.rd h2, h3⟩
  have TK2 : Hid (∀ u, Calls Tryz.prog 21 #[.int .i64 id] u fun e w' => ∃ a c, e = .returned (.slice a (tokL id).length c) ∧ SRd wordE w' a (tokL id) ∧ u.grownBy w' none) := fun u => (r_tokens id u).mono fun e w' ⟨a, c, h1, h2, _, h3⟩ => ⟨a, c, h1, h2, h3⟩
  have SW : Hid (∀ u a b c d, SRd wordE u a (tokL id) → SRd wordE u b (tokL id) → Calls Tryz.prog 19 #[.slice a (tokL id).length c, .slice b (tokL id).length d] u fun e w' => e = .returned (.bool true) ∧ u.grownBy w' none) := fun u a b c d h1 h2 => by
    refine (wsameQ a b (tokL id) (tokL id) _ _ c d u h1 h2 rfl rfl (by have := (tokL_len id).2; omega)).mono ?_
    rintro e w' ⟨rfl, h⟩
    exact ⟨by simp, by first | exact h | (obtain ⟨n, rfl⟩ := h; exact gb_drewN _ _)⟩
  generalize tokL id = TL at TK1 TK2 SW
  generalize TL.length = NT at TK1 TK2 SW
  generalize chkC ms = qc at CK1 CK2
  generalize stOf ms id = qs at ST1 ST2
  unfold GoOut at GO0 GO1 GO2 GO3
  unfold RcOut at RC0 RC1 RC2 RC3
  generalize rE 0 E ms id = E0 at GO0 RC0
  generalize rM 0 E ms id = M0 at GO0 RC0 SML0
  generalize chgE 0 E ms id = q0 at GO0 RC0
  obtain ⟨N0, en0⟩ : ∃ N, M0.length = N := ⟨_, rfl⟩
  have EL0 : Hid (M0.length = N0) := en0
  rw [en0] at GO0 RC0
  clear en0
  generalize rE 1 E ms id = E1 at GO1 RC1
  generalize rM 1 E ms id = M1 at GO1 RC1 SML1
  generalize chgE 1 E ms id = q1 at GO1 RC1
  obtain ⟨N1, en1⟩ : ∃ N, M1.length = N := ⟨_, rfl⟩
  have EL1 : Hid (M1.length = N1) := en1
  rw [en1] at GO1 RC1
  clear en1
  generalize rE 2 E ms id = E2 at GO2 RC2
  generalize rM 2 E ms id = M2 at GO2 RC2 SML2
  generalize chgE 2 E ms id = q2 at GO2 RC2
  obtain ⟨N2, en2⟩ : ∃ N, M2.length = N := ⟨_, rfl⟩
  have EL2 : Hid (M2.length = N2) := en2
  rw [en2] at GO2 RC2
  clear en2
  generalize rE 3 E ms id = E3 at GO3 RC3
  generalize rM 3 E ms id = M3 at GO3 RC3 SML3
  generalize chgE 3 E ms id = q3 at GO3 RC3
  obtain ⟨N3, en3⟩ : ∃ N, M3.length = N := ⟨_, rfl⟩
  have EL3 : Hid (M3.length = N3) := en3
  rw [en3] at GO3 RC3
  clear en3
  have HB0 : Hid ((w.alloc (.cells #[.int .u64 E, .slice a n c] 25)).heap[w.heap.size]? = some (.cells #[.int .u64 E, .slice a n c] 25 (0, 0))) := heap_alloc_new w _
  have HG : Hid (w.grownBy (w.alloc (.cells #[.int .u64 E, .slice a n c] 25)) none) := World.grownBy_alloc _ _ none
  have C0 := CP.out _ a c _ (hr.grown (World.grownBy_alloc w (.cells #[.int .u64 E, .slice a n c] 25) none))
  obtain ⟨B, eB⟩ : ∃ B, w.heap.size = B := ⟨_, rfl⟩
  have EB : Hid (w.heap.size = B) := eB
  rw [eB] at HB0
  clear hr hnil hE hn hz2 hz3 eB
  obtain ⟨x0, x1⟩ := cell2 HB0.out
  go_enter Tryz.func3, Tryz.ntmps3
  go_wp2_with fail
  try rw [EB.out]
  generalize w.alloc (.cells #[.int .u64 E, .slice a n c] 25) = W at *
  clear x0 x1
  refine C0.mono ?_
  clear C0
  rintro e u1 ⟨ax, cx, rawx, rfl, mo9, g9⟩
  have HB1 : Hid (u1.heap[B]? = some (.cells #[.int .u64 E, .slice a n c] 25 (0, 0))) := by show _ = _; rw [g9.block B (Array.getElem?_eq_some_iff.1 HB0.out).1 (by simp)]; exact HB0.out
  replace HG : Hid (w.grownBy u1 none) := HG.out.trans g9
  have HMX : Hid (MsOwn u1 W.heap.size (.slice ax n cx) ms rawx) := mo9
  obtain ⟨bx, ebx⟩ : ∃ b, W.heap.size = b := ⟨_, rfl⟩
  have HSX : Hid (SpR u1 bx u1.heap.size ax n cx rawx) := by rw [← ebx]; exact SpR.of mo9 HN.out HZ2.out
  obtain ⟨Bx, eBx⟩ : ∃ b, u1.heap.size = b := ⟨_, rfl⟩
  rw [eBx] at HSX
  have EBx : Hid (u1.heap.size = Bx) := eBx
  have HBB : Hid (B < bx ∧ bx ≤ Bx) := by
    refine ⟨?_, ?_⟩
    · rw [← ebx]; exact (Array.getElem?_eq_some_iff.1 HB0.out).1
    · rw [← ebx, ← eBx]; exact g9.size
  clear mo9 g9 HB0 ebx
  have gx := World.grownBy_alloc u1 (.cells #[.int .u64 E, .slice ax n cx] 25) none
  have HSZ : Hid ((u1.alloc (.cells #[.int .u64 E, .slice ax n cx] 25)).heap.size = Bx + 1) := by show _ = _; rw [size_alloc, eBx]
  have HBr : Hid ((u1.alloc (.cells #[.int .u64 E, .slice ax n cx] 25)).heap[B]? = some (.cells #[.int .u64 E, .slice a n c] 25 (0, 0))) := by show _ = _; rw [gx.block B (Array.getElem?_eq_some_iff.1 HB1.out).1 (by simp)]; exact HB1.out
  have HBx : Hid ((u1.alloc (.cells #[.int .u64 E, .slice ax n cx] 25)).heap[Bx]? = some (.cells #[.int .u64 E, .slice ax n cx] 25 (0, 0))) := by show _ = _; rw [← eBx]; exact heap_alloc_new u1 _
  have HXM : Hid (MsRd (u1.alloc (.cells #[.int .u64 E, .slice ax n cx] 25)) ax ms rawx ∧ (ax = none → cx = 0)) := ⟨HMX.out.rd.1.grown gx, HMX.out.rd.2⟩
  have HXS : Hid (SpR (u1.alloc (.cells #[.int .u64 E, .slice ax n cx] 25)) bx Bx ax n cx rawx) := HSX.out.md (Md.of (base := Bx) (hi := Bx) gx (by simp)) (.inl (Nat.le_refl _))
  have HGX : Hid (w.grownBy (u1.alloc (.cells #[.int .u64 E, .slice ax n cx] 25)) none) := HG.out.trans gx
  clear gx HB1 HMX HSX
  have HSZ0 : Hid ((((u1.alloc (.cells #[.int .u64 E, .slice ax n cx] 25)).alloc (.cells #[.int .u64 0, .slice none 0 0, .int .u64 0, .slice none 0 0, .int .u64 0, .slice none 0 0, .int .u64 0, .slice none 0 0] 27)).alloc (.cells #[.int .i64 0, .int .i64 0, .int .i64 0, .int .i64 0] 29)).heap.size = Bx + 3) := by show _ = _; rw [size_alloc, size_alloc, HSZ.out]
  have HWZ : Hid ((u1.alloc (.cells #[.int .u64 E, .slice ax n cx] 25)).grownBy (((u1.alloc (.cells #[.int .u64 E, .slice ax n cx] 25)).alloc (.cells #[.int .u64 0, .slice none 0 0, .int .u64 0, .slice none 0 0, .int .u64 0, .slice none 0 0, .int .u64 0, .slice none 0 0] 27)).alloc (.cells #[.int .i64 0, .int .i64 0, .int .i64 0, .int .i64 0] 29)) none) := (World.grownBy_alloc _ _ none).trans (World.grownBy_alloc _ _ none)
  have HGA : Hid (GA (((u1.alloc (.cells #[.int .u64 E, .slice ax n cx] 25)).alloc (.cells #[.int .u64 0, .slice none 0 0, .int .u64 0, .slice none 0 0, .int .u64 0, .slice none 0 0, .int .u64 0, .slice none 0 0] 27)).alloc (.cells #[.int .i64 0, .int .i64 0, .int .i64 0, .int .i64 0] 29)) (Bx + 1) (Bx + 2) #[.int .u64 0, .slice none 0 0, .int .u64 0, .slice none 0 0, .int .u64 0, .slice none 0 0, .int .u64 0, .slice none 0 0] #[.int .i64 0, .int .i64 0, .int .i64 0, .int .i64 0]) := by
    have g9 := World.grownBy_alloc ((u1.alloc (.cells #[.int .u64 E, .slice ax n cx] 25)).alloc (.cells #[.int .u64 0, .slice none 0 0, .int .u64 0, .slice none 0 0, .int .u64 0, .slice none 0 0, .int .u64 0, .slice none 0 0] 27)) (.cells #[.int .i64 0, .int .i64 0, .int .i64 0, .int .i64 0] 29) none
    have h8 : ((u1.alloc (.cells #[.int .u64 E, .slice ax n cx] 25)).alloc (.cells #[.int .u64 0, .slice none 0 0, .int .u64 0, .slice none 0 0, .int .u64 0, .slice none 0 0, .int .u64 0, .slice none 0 0] 27)).heap.size = Bx + 2 := by rw [size_alloc, HSZ.out]
    have h9 := heap_alloc_new (u1.alloc (.cells #[.int .u64 E, .slice ax n cx] 25)) (.cells #[.int .u64 0, .slice none 0 0, .int .u64 0, .slice none 0 0, .int .u64 0, .slice none 0 0, .int .u64 0, .slice none 0 0] 27)
    rw [HSZ.out] at h9
    refine ⟨by rw [g9.block _ (by omega) (by simp)]; exact h9, ?_⟩
    have h7 := heap_alloc_new ((u1.alloc (.cells #[.int .u64 E, .slice ax n cx] 25)).alloc (.cells #[.int .u64 0, .slice none 0 0, .int .u64 0, .slice none 0 0, .int .u64 0, .slice none 0 0, .int .u64 0, .slice none 0 0] 27)) (.cells #[.int .i64 0, .int .i64 0, .int .i64 0, .int .i64 0] 29)
    rw [h8] at h7
    exact h7
  obtain ⟨x0, x1⟩ := cell2 (show (((u1.alloc (.cells #[.int .u64 E, .slice ax n cx] 25)).alloc (.cells #[.int .u64 0, .slice none 0 0, .int .u64 0, .slice none 0 0, .int .u64 0, .slice none 0 0, .int .u64 0, .slice none 0 0] 27)).alloc (.cells #[.int .i64 0, .int .i64 0, .int .i64 0, .int .i64 0] 29)).heap[Bx]? = some (.cells #[.int .u64 E, .slice ax n cx] 25 (0, 0)) by rw [HWZ.out.block Bx (Array.getElem?_eq_some_iff.1 HBx.out).1 (by simp)]; exact HBx.out)
  have C1 := GO0.out (((u1.alloc (.cells #[.int .u64 E, .slice ax n cx] 25)).alloc (.cells #[.int .u64 0, .slice none 0 0, .int .u64 0, .slice none 0 0, .int .u64 0, .slice none 0 0, .int .u64 0, .slice none 0 0] 27)).alloc (.cells #[.int .i64 0, .int .i64 0, .int .i64 0, .int .i64 0] 29)) ax cx rawx (HXM.out.1.grown HWZ.out) HXM.out.2
  clear eBx
  go_wp2_with fail
  try rw [EBx.out]
  generalize (((u1.alloc (.cells #[.int .u64 E, .slice ax n cx] 25)).alloc (.cells #[.int .u64 0, .slice none 0 0, .int .u64 0, .slice none 0 0, .int .u64 0, .slice none 0 0, .int .u64 0, .slice none 0 0] 27)).alloc (.cells #[.int .i64 0, .int .i64 0, .int .i64 0, .int .i64 0] 29)) = Z0 at *
  generalize (u1.alloc (.cells #[.int .u64 E, .slice ax n cx] 25)) = X at *
  clear x0 x1
  have HXZ : Hid (X.heap.size = Bx + 1) := HSZ.out
  refine C1.mono ?_
  clear C1
  rintro e u2 ⟨A0, C0, R0, rfl, mo9, g9⟩
  obtain ⟨b0, eb0⟩ : ∃ b, Z0.heap.size = b := ⟨_, rfl⟩
  obtain ⟨h0, eh0⟩ : ∃ b, u2.heap.size = b := ⟨_, rfl⟩
  have HBH0 : Hid (Bx + 3 ≤ b0 ∧ b0 ≤ h0) := by
    refine ⟨?_, ?_⟩
    · rw [← eb0]; rw [HSZ0.out]; exact Nat.le_refl _
    · rw [← eb0, ← eh0]; exact g9.size
  have HGG0 : Hid (Got (((u2.setCell ⟨Bx + 1, 0, none⟩ (.int .u64 E0)).setCell ⟨Bx + 1, 1, none⟩ (.slice A0 N0 C0)).setCell ⟨Bx + 2, 0, none⟩ (.int .i64 q0)) b0 h0 A0 N0 C0 M0 R0) := by
    have h1 : Got u2 b0 h0 A0 N0 C0 M0 R0 := by rw [← eb0, ← eh0]; exact ⟨mo9, SpR.of mo9 EL0.out (fun m hm => by have := SML0.out.2 m hm; omega)⟩
    exact h1.md (puts_md u2 (Bx + 1) (Bx + 2) 0 0 _ _ _ (by omega)) (by have :=  HBH0.out; omega)
  have HSZ1 : Hid (h0 ≤ (((u2.setCell ⟨Bx + 1, 0, none⟩ (.int .u64 E0)).setCell ⟨Bx + 1, 1, none⟩ (.slice A0 N0 C0)).setCell ⟨Bx + 2, 0, none⟩ (.int .i64 q0)).heap.size) := by
    show _ ≤ _
    rw [← eh0]
    exact (puts_md u2 (Bx + 1) (Bx + 2) 0 0 _ _ _ (by omega)).size
  have GAu := HGA.out.grown g9
  have g0 : u2.cell? ⟨Bx + 1, 0, none⟩ = some (.int .u64 0) := by rw [cell_of_row _ _ _ _ _ _ GAu.got]; rfl
  have g1 : u2.cell? ⟨Bx + 1, 1, none⟩ = some (.slice none 0 0) := by rw [cell_of_row _ _ _ _ _ _ GAu.got]; rfl
  have g2 : u2.cell? ⟨Bx + 2, 0, none⟩ = some (.int .i64 0) := by rw [cell_of_row _ _ _ _ _ _ GAu.bad]; rfl
  have f0 := row_free GAu.got 0
  have f1 := row_free GAu.got 1
  have f2 := row_free GAu.bad 0
  have hneB : ¬ Bx + 1 = Bx + 2 := by omega
  have hneB' : ¬ Bx + 2 = Bx + 1 := by omega
  replace HGA : Hid (GA (((u2.setCell ⟨Bx + 1, 0, none⟩ (.int .u64 E0)).setCell ⟨Bx + 1, 1, none⟩ (.slice A0 N0 C0)).setCell ⟨Bx + 2, 0, none⟩ (.int .i64 q0)) (Bx + 1) (Bx + 2) #[.int .u64 E0, .slice A0 N0 C0, .int .u64 0, .slice none 0 0, .int .u64 0, .slice none 0 0, .int .u64 0, .slice none 0 0] #[.int .i64 q0, .int .i64 0, .int .i64 0, .int .i64 0]) := GAu.put (i := 0) (l := 0) (by omega) _ _ _
  replace HWZ : Hid (X.grownBy (((u2.setCell ⟨Bx + 1, 0, none⟩ (.int .u64 E0)).setCell ⟨Bx + 1, 1, none⟩ (.slice A0 N0 C0)).setCell ⟨Bx + 2, 0, none⟩ (.int .i64 q0)) none) := puts_gb u2 (Bx + 1) (Bx + 2) 0 0 _ _ _ (HWZ.out.trans g9) (by have := HXZ.out; omega) (by have := HXZ.out; omega)
  clear mo9 g9 eb0 eh0 GAu
  go_upto_region 5 with fail
  generalize (((u2.setCell ⟨Bx + 1, 0, none⟩ (.int .u64 E0)).setCell ⟨Bx + 1, 1, none⟩ (.slice A0 N0 C0)).setCell ⟨Bx + 2, 0, none⟩ (.int .i64 q0)) = Z1 at *
  clear g0 g1 g2 f0 f1 f2 hneB hneB'
  obtain ⟨x0, x1⟩ := cell2 (show Z1.heap[Bx]? = some (.cells #[.int .u64 E, .slice ax n cx] 25 (0, 0)) by rw [HWZ.out.block Bx (Array.getElem?_eq_some_iff.1 HBx.out).1 (by simp)]; exact HBx.out)
  have C1 := GO1.out Z1 ax cx rawx (HXM.out.1.grown HWZ.out) HXM.out.2
  go_wp2_with fail
  clear x0 x1
  refine C1.mono ?_
  clear C1
  rintro e u3 ⟨A1, C1, R1, rfl, mo9, g9⟩
  obtain ⟨b1, eb1⟩ : ∃ b, Z1.heap.size = b := ⟨_, rfl⟩
  obtain ⟨h1, eh1⟩ : ∃ b, u3.heap.size = b := ⟨_, rfl⟩
  have HBH1 : Hid (h0 ≤ b1 ∧ b1 ≤ h1) := by
    refine ⟨?_, ?_⟩
    · rw [← eb1]; exact HSZ1.out
    · rw [← eb1, ← eh1]; exact g9.size
  have HGG1 : Hid (Got (((u3.setCell ⟨Bx + 1, 2, none⟩ (.int .u64 E1)).setCell ⟨Bx + 1, 3, none⟩ (.slice A1 N1 C1)).setCell ⟨Bx + 2, 1, none⟩ (.int .i64 q1)) b1 h1 A1 N1 C1 M1 R1) := by
    have h1 : Got u3 b1 h1 A1 N1 C1 M1 R1 := by rw [← eb1, ← eh1]; exact ⟨mo9, SpR.of mo9 EL1.out (fun m hm => by have := SML1.out.2 m hm; omega)⟩
    exact h1.md (puts_md u3 (Bx + 1) (Bx + 2) 2 1 _ _ _ (by omega)) (by have := HBH0.out; have := HBH1.out; omega)
  replace HGG0 : Hid (Got (((u3.setCell ⟨Bx + 1, 2, none⟩ (.int .u64 E1)).setCell ⟨Bx + 1, 3, none⟩ (.slice A1 N1 C1)).setCell ⟨Bx + 2, 1, none⟩ (.int .i64 q1)) b0 h0 A0 N0 C0 M0 R0) := (HGG0.out.grown g9).md (puts_md u3 (Bx + 1) (Bx + 2) 2 1 _ _ _ (by omega)) (by have :=  HBH0.out; omega)
  have HSZ2 : Hid (h1 ≤ (((u3.setCell ⟨Bx + 1, 2, none⟩ (.int .u64 E1)).setCell ⟨Bx + 1, 3, none⟩ (.slice A1 N1 C1)).setCell ⟨Bx + 2, 1, none⟩ (.int .i64 q1)).heap.size) := by
    show _ ≤ _
    rw [← eh1]
    exact (puts_md u3 (Bx + 1) (Bx + 2) 2 1 _ _ _ (by omega)).size
  have GAu := HGA.out.grown g9
  have g0 : u3.cell? ⟨Bx + 1, 2, none⟩ = some (.int .u64 0) := by rw [cell_of_row _ _ _ _ _ _ GAu.got]; rfl
  have g1 : u3.cell? ⟨Bx + 1, 3, none⟩ = some (.slice none 0 0) := by rw [cell_of_row _ _ _ _ _ _ GAu.got]; rfl
  have g2 : u3.cell? ⟨Bx + 2, 1, none⟩ = some (.int .i64 0) := by rw [cell_of_row _ _ _ _ _ _ GAu.bad]; rfl
  have f0 := row_free GAu.got 2
  have f1 := row_free GAu.got 3
  have f2 := row_free GAu.bad 1
  have hneB : ¬ Bx + 1 = Bx + 2 := by omega
  have hneB' : ¬ Bx + 2 = Bx + 1 := by omega
  replace HGA : Hid (GA (((u3.setCell ⟨Bx + 1, 2, none⟩ (.int .u64 E1)).setCell ⟨Bx + 1, 3, none⟩ (.slice A1 N1 C1)).setCell ⟨Bx + 2, 1, none⟩ (.int .i64 q1)) (Bx + 1) (Bx + 2) #[.int .u64 E0, .slice A0 N0 C0, .int .u64 E1, .slice A1 N1 C1, .int .u64 0, .slice none 0 0, .int .u64 0, .slice none 0 0] #[.int .i64 q0, .int .i64 q1, .int .i64 0, .int .i64 0]) := GAu.put (i := 2) (l := 1) (by omega) _ _ _
  replace HWZ : Hid (X.grownBy (((u3.setCell ⟨Bx + 1, 2, none⟩ (.int .u64 E1)).setCell ⟨Bx + 1, 3, none⟩ (.slice A1 N1 C1)).setCell ⟨Bx + 2, 1, none⟩ (.int .i64 q1)) none) := puts_gb u3 (Bx + 1) (Bx + 2) 2 1 _ _ _ (HWZ.out.trans g9) (by have := HXZ.out; omega) (by have := HXZ.out; omega)
  clear mo9 g9 eb1 eh1 GAu
  go_upto_region 6 with fail
  generalize (((u3.setCell ⟨Bx + 1, 2, none⟩ (.int .u64 E1)).setCell ⟨Bx + 1, 3, none⟩ (.slice A1 N1 C1)).setCell ⟨Bx + 2, 1, none⟩ (.int .i64 q1)) = Z2 at *
  clear g0 g1 g2 f0 f1 f2 hneB hneB'
  obtain ⟨x0, x1⟩ := cell2 (show Z2.heap[Bx]? = some (.cells #[.int .u64 E, .slice ax n cx] 25 (0, 0)) by rw [HWZ.out.block Bx (Array.getElem?_eq_some_iff.1 HBx.out).1 (by simp)]; exact HBx.out)
  have C1 := GO2.out Z2 ax cx rawx (HXM.out.1.grown HWZ.out) HXM.out.2
  go_wp2_with fail
  clear x0 x1
  refine C1.mono ?_
  clear C1
  rintro e u4 ⟨A2, C2, R2, rfl, mo9, g9⟩
  obtain ⟨b2, eb2⟩ : ∃ b, Z2.heap.size = b := ⟨_, rfl⟩
  obtain ⟨h2, eh2⟩ : ∃ b, u4.heap.size = b := ⟨_, rfl⟩
  have HBH2 : Hid (h1 ≤ b2 ∧ b2 ≤ h2) := by
    refine ⟨?_, ?_⟩
    · rw [← eb2]; exact HSZ2.out
    · rw [← eb2, ← eh2]; exact g9.size
  have HGG2 : Hid (Got (((u4.setCell ⟨Bx + 1, 4, none⟩ (.int .u64 E2)).setCell ⟨Bx + 1, 5, none⟩ (.slice A2 N2 C2)).setCell ⟨Bx + 2, 2, none⟩ (.int .i64 q2)) b2 h2 A2 N2 C2 M2 R2) := by
    have h1 : Got u4 b2 h2 A2 N2 C2 M2 R2 := by rw [← eb2, ← eh2]; exact ⟨mo9, SpR.of mo9 EL2.out (fun m hm => by have := SML2.out.2 m hm; omega)⟩
    exact h1.md (puts_md u4 (Bx + 1) (Bx + 2) 4 2 _ _ _ (by omega)) (by have := HBH0.out; have := HBH1.out; have := HBH2.out; omega)
  replace HGG0 : Hid (Got (((u4.setCell ⟨Bx + 1, 4, none⟩ (.int .u64 E2)).setCell ⟨Bx + 1, 5, none⟩ (.slice A2 N2 C2)).setCell ⟨Bx + 2, 2, none⟩ (.int .i64 q2)) b0 h0 A0 N0 C0 M0 R0) := (HGG0.out.grown g9).md (puts_md u4 (Bx + 1) (Bx + 2) 4 2 _ _ _ (by omega)) (by have :=  HBH0.out; omega)
  replace HGG1 : Hid (Got (((u4.setCell ⟨Bx + 1, 4, none⟩ (.int .u64 E2)).setCell ⟨Bx + 1, 5, none⟩ (.slice A2 N2 C2)).setCell ⟨Bx + 2, 2, none⟩ (.int .i64 q2)) b1 h1 A1 N1 C1 M1 R1) := (HGG1.out.grown g9).md (puts_md u4 (Bx + 1) (Bx + 2) 4 2 _ _ _ (by omega)) (by have := HBH0.out; have := HBH1.out; omega)
  have HSZ3 : Hid (h2 ≤ (((u4.setCell ⟨Bx + 1, 4, none⟩ (.int .u64 E2)).setCell ⟨Bx + 1, 5, none⟩ (.slice A2 N2 C2)).setCell ⟨Bx + 2, 2, none⟩ (.int .i64 q2)).heap.size) := by
    show _ ≤ _
    rw [← eh2]
    exact (puts_md u4 (Bx + 1) (Bx + 2) 4 2 _ _ _ (by omega)).size
  have GAu := HGA.out.grown g9
  have g0 : u4.cell? ⟨Bx + 1, 4, none⟩ = some (.int .u64 0) := by rw [cell_of_row _ _ _ _ _ _ GAu.got]; rfl
  have g1 : u4.cell? ⟨Bx + 1, 5, none⟩ = some (.slice none 0 0) := by rw [cell_of_row _ _ _ _ _ _ GAu.got]; rfl
  have g2 : u4.cell? ⟨Bx + 2, 2, none⟩ = some (.int .i64 0) := by rw [cell_of_row _ _ _ _ _ _ GAu.bad]; rfl
  have f0 := row_free GAu.got 4
  have f1 := row_free GAu.got 5
  have f2 := row_free GAu.bad 2
  have hneB : ¬ Bx + 1 = Bx + 2 := by omega
  have hneB' : ¬ Bx + 2 = Bx + 1 := by omega
  replace HGA : Hid (GA (((u4.setCell ⟨Bx + 1, 4, none⟩ (.int .u64 E2)).setCell ⟨Bx + 1, 5, none⟩ (.slice A2 N2 C2)).setCell ⟨Bx + 2, 2, none⟩ (.int .i64 q2)) (Bx + 1) (Bx + 2) #[.int .u64 E0, .slice A0 N0 C0, .int .u64 E1, .slice A1 N1 C1, .int .u64 E2, .slice A2 N2 C2, .int .u64 0, .slice none 0 0] #[.int .i64 q0, .int .i64 q1, .int .i64 q2, .int .i64 0]) := GAu.put (i := 4) (l := 2) (by omega) _ _ _
  replace HWZ : Hid (X.grownBy (((u4.setCell ⟨Bx + 1, 4, none⟩ (.int .u64 E2)).setCell ⟨Bx + 1, 5, none⟩ (.slice A2 N2 C2)).setCell ⟨Bx + 2, 2, none⟩ (.int .i64 q2)) none) := puts_gb u4 (Bx + 1) (Bx + 2) 4 2 _ _ _ (HWZ.out.trans g9) (by have := HXZ.out; omega) (by have := HXZ.out; omega)
  clear mo9 g9 eb2 eh2 GAu
  go_upto_region 7 with fail
  generalize (((u4.setCell ⟨Bx + 1, 4, none⟩ (.int .u64 E2)).setCell ⟨Bx + 1, 5, none⟩ (.slice A2 N2 C2)).setCell ⟨Bx + 2, 2, none⟩ (.int .i64 q2)) = Z3 at *
  clear g0 g1 g2 f0 f1 f2 hneB hneB'
  obtain ⟨x0, x1⟩ := cell2 (show Z3.heap[Bx]? = some (.cells #[.int .u64 E, .slice ax n cx] 25 (0, 0)) by rw [HWZ.out.block Bx (Array.getElem?_eq_some_iff.1 HBx.out).1 (by simp)]; exact HBx.out)
  have C1 := GO3.out Z3 ax cx rawx (HXM.out.1.grown HWZ.out) HXM.out.2
  go_wp2_with fail
  clear x0 x1
  refine C1.mono ?_
  clear C1
  rintro e u5 ⟨A3, C3, R3, rfl, mo9, g9⟩
  obtain ⟨b3, eb3⟩ : ∃ b, Z3.heap.size = b := ⟨_, rfl⟩
  obtain ⟨h3, eh3⟩ : ∃ b, u5.heap.size = b := ⟨_, rfl⟩
  have HBH3 : Hid (h2 ≤ b3 ∧ b3 ≤ h3) := by
    refine ⟨?_, ?_⟩
    · rw [← eb3]; exact HSZ3.out
    · rw [← eb3, ← eh3]; exact g9.size
  have HGG3 : Hid (Got (((u5.setCell ⟨Bx + 1, 6, none⟩ (.int .u64 E3)).setCell ⟨Bx + 1, 7, none⟩ (.slice A3 N3 C3)).setCell ⟨Bx + 2, 3, none⟩ (.int .i64 q3)) b3 h3 A3 N3 C3 M3 R3) := by
    have h1 : Got u5 b3 h3 A3 N3 C3 M3 R3 := by rw [← eb3, ← eh3]; exact ⟨mo9, SpR.of mo9 EL3.out (fun m hm => by have := SML3.out.2 m hm; omega)⟩
    exact h1.md (puts_md u5 (Bx + 1) (Bx + 2) 6 3 _ _ _ (by omega)) (by have := HBH0.out; have := HBH1.out; have := HBH2.out; have := HBH3.out; omega)
  replace HGG0 : Hid (Got (((u5.setCell ⟨Bx + 1, 6, none⟩ (.int .u64 E3)).setCell ⟨Bx + 1, 7, none⟩ (.slice A3 N3 C3)).setCell ⟨Bx + 2, 3, none⟩ (.int .i64 q3)) b0 h0 A0 N0 C0 M0 R0) := (HGG0.out.grown g9).md (puts_md u5 (Bx + 1) (Bx + 2) 6 3 _ _ _ (by omega)) (by have :=  HBH0.out; omega)
  replace HGG1 : Hid (Got (((u5.setCell ⟨Bx + 1, 6, none⟩ (.int .u64 E3)).setCell ⟨Bx + 1, 7, none⟩ (.slice A3 N3 C3)).setCell ⟨Bx + 2, 3, none⟩ (.int .i64 q3)) b1 h1 A1 N1 C1 M1 R1) := (HGG1.out.grown g9).md (puts_md u5 (Bx + 1) (Bx + 2) 6 3 _ _ _ (by omega)) (by have := HBH0.out; have := HBH1.out; omega)
  replace HGG2 : Hid (Got (((u5.setCell ⟨Bx + 1, 6, none⟩ (.int .u64 E3)).setCell ⟨Bx + 1, 7, none⟩ (.slice A3 N3 C3)).setCell ⟨Bx + 2, 3, none⟩ (.int .i64 q3)) b2 h2 A2 N2 C2 M2 R2) := (HGG2.out.grown g9).md (puts_md u5 (Bx + 1) (Bx + 2) 6 3 _ _ _ (by omega)) (by have := HBH0.out; have := HBH1.out; have := HBH2.out; omega)
  have HSZ4 : Hid (h3 ≤ (((u5.setCell ⟨Bx + 1, 6, none⟩ (.int .u64 E3)).setCell ⟨Bx + 1, 7, none⟩ (.slice A3 N3 C3)).setCell ⟨Bx + 2, 3, none⟩ (.int .i64 q3)).heap.size) := by
    show _ ≤ _
    rw [← eh3]
    exact (puts_md u5 (Bx + 1) (Bx + 2) 6 3 _ _ _ (by omega)).size
  have GAu := HGA.out.grown g9
  have g0 : u5.cell? ⟨Bx + 1, 6, none⟩ = some (.int .u64 0) := by rw [cell_of_row _ _ _ _ _ _ GAu.got]; rfl
  have g1 : u5.cell? ⟨Bx + 1, 7, none⟩ = some (.slice none 0 0) := by rw [cell_of_row _ _ _ _ _ _ GAu.got]; rfl
  have g2 : u5.cell? ⟨Bx + 2, 3, none⟩ = some (.int .i64 0) := by rw [cell_of_row _ _ _ _ _ _ GAu.bad]; rfl
  have f0 := row_free GAu.got 6
  have f1 := row_free GAu.got 7
  have f2 := row_free GAu.bad 3
  have hneB : ¬ Bx + 1 = Bx + 2 := by omega
  have hneB' : ¬ Bx + 2 = Bx + 1 := by omega
  replace HGA : Hid (GA (((u5.setCell ⟨Bx + 1, 6, none⟩ (.int .u64 E3)).setCell ⟨Bx + 1, 7, none⟩ (.slice A3 N3 C3)).setCell ⟨Bx + 2, 3, none⟩ (.int .i64 q3)) (Bx + 1) (Bx + 2) #[.int .u64 E0, .slice A0 N0 C0, .int .u64 E1, .slice A1 N1 C1, .int .u64 E2, .slice A2 N2 C2, .int .u64 E3, .slice A3 N3 C3] #[.int .i64 q0, .int .i64 q1, .int .i64 q2, .int .i64 q3]) := GAu.put (i := 6) (l := 3) (by omega) _ _ _
  replace HWZ : Hid (X.grownBy (((u5.setCell ⟨Bx + 1, 6, none⟩ (.int .u64 E3)).setCell ⟨Bx + 1, 7, none⟩ (.slice A3 N3 C3)).setCell ⟨Bx + 2, 3, none⟩ (.int .i64 q3)) none) := puts_gb u5 (Bx + 1) (Bx + 2) 6 3 _ _ _ (HWZ.out.trans g9) (by have := HXZ.out; omega) (by have := HXZ.out; omega)
  clear mo9 g9 eb3 eh3 GAu
  go_upto_region 8 with fail
  generalize (((u5.setCell ⟨Bx + 1, 6, none⟩ (.int .u64 E3)).setCell ⟨Bx + 1, 7, none⟩ (.slice A3 N3 C3)).setCell ⟨Bx + 2, 3, none⟩ (.int .i64 q3)) = V at *
  clear g0 g1 g2 f0 f1 f2 hneB hneB'
  have HBV : Hid (V.heap[B]? = some (.cells #[.int .u64 E, .slice a n c] 25 (0, 0))) := by show _ = _; rw [HWZ.out.block B (Array.getElem?_eq_some_iff.1 HBr.out).1 (by simp)]; exact HBr.out
  have HBxV : Hid (V.heap[Bx]? = some (.cells #[.int .u64 E, .slice ax n cx] 25 (0, 0))) := by show _ = _; rw [HWZ.out.block Bx (Array.getElem?_eq_some_iff.1 HBx.out).1 (by simp)]; exact HBx.out
  have HGV : Hid (w.grownBy V none) := HGX.out.trans HWZ.out
  obtain ⟨x0, x1⟩ := cell2 HBxV.out
  obtain ⟨y0, y1⟩ := cell2 HBV.out
  have KE : Hid (∀ u u', Hid (V.grownBy u none) → u.grownBy u' none → Hid (V.grownBy u' none) ∧ u'.cell? ⟨Bx, 0, none⟩ = some (.int .u64 E) ∧ u'.cell? ⟨Bx, 1, none⟩ = some (.slice ax n cx) ∧ u'.cell? ⟨B, 0, none⟩ = some (.int .u64 E) ∧ u'.cell? ⟨B, 1, none⟩ = some (.slice a n c)) := fun u u' h hg => ⟨h.out.trans hg, (h.out.trans hg).cell x0 (by simp), (h.out.trans hg).cell x1 (by simp), (h.out.trans hg).cell y0 (by simp), (h.out.trans hg).cell y1 (by simp)⟩
  have MX : Hid (∀ u, Hid (V.grownBy u none) → MsRd u ax ms rawx) := fun u h => HXM.out.1.grown (HWZ.out.trans h.out)
  have MR : Hid (∀ u, Hid (V.grownBy u none) → MsRd u a ms raw) := fun u h => HR.out.grown (HGV.out.trans h.out)
  have HDR : Hid (V.grownBy V.drew none) := gb_drew (World.grownBy.refl _ _)
  have H14 : Hid (∀ u, Hid (V.grownBy u none) → Calls Tryz.prog 14 #[.agg #[.int .u64 E, .slice ax n cx], .agg #[.int .u64 E, .slice a n c]] u fun e w' => e = .returned (.bool true) ∧ Hid (V.grownBy w' none) ∧ w'.cell? ⟨Bx, 0, none⟩ = some (.int .u64 E) ∧ w'.cell? ⟨Bx, 1, none⟩ = some (.slice ax n cx) ∧ w'.cell? ⟨B, 0, none⟩ = some (.int .u64 E) ∧ w'.cell? ⟨B, 1, none⟩ = some (.slice a n c)) := fun u h => (SM.out u ax a cx c rawx raw (MX.out u h) (MR.out u h)).mono fun e w' ⟨h1, h2⟩ => ⟨h1, KE.out u w' h h2⟩
  have H15 : Hid (∀ u, Hid (V.grownBy u none) → Calls Tryz.prog 15 #[.agg #[.int .u64 E, .slice ax n cx]] u fun e w' => e = .returned (.int .i64 qc) ∧ Hid (V.grownBy w' none) ∧ w'.cell? ⟨Bx, 0, none⟩ = some (.int .u64 E) ∧ w'.cell? ⟨Bx, 1, none⟩ = some (.slice ax n cx) ∧ w'.cell? ⟨B, 0, none⟩ = some (.int .u64 E) ∧ w'.cell? ⟨B, 1, none⟩ = some (.slice a n c)) := fun u h => (CK1.out u ax cx rawx (MX.out u h)).mono fun e w' ⟨h1, h2⟩ => ⟨h1, KE.out u w' h h2⟩
  have H16 : Hid (∀ u, Hid (V.grownBy u none) → Calls Tryz.prog 16 #[.agg #[.int .u64 E, .slice a n c]] u fun e w' => e = .returned (.int .i64 qc) ∧ Hid (V.grownBy w' none) ∧ w'.cell? ⟨Bx, 0, none⟩ = some (.int .u64 E) ∧ w'.cell? ⟨Bx, 1, none⟩ = some (.slice ax n cx) ∧ w'.cell? ⟨B, 0, none⟩ = some (.int .u64 E) ∧ w'.cell? ⟨B, 1, none⟩ = some (.slice a n c)) := fun u h => (CK2.out u a c raw (MR.out u h)).mono fun e w' ⟨h1, h2⟩ => ⟨h1, KE.out u w' h h2⟩
  have H17 : Hid (∀ u, Hid (V.grownBy u none) → Calls Tryz.prog 17 #[.agg #[.int .u64 E, .slice ax n cx], .int .i64 id] u fun e w' => e = .returned (.int .i64 qs) ∧ Hid (V.grownBy w' none) ∧ w'.cell? ⟨Bx, 0, none⟩ = some (.int .u64 E) ∧ w'.cell? ⟨Bx, 1, none⟩ = some (.slice ax n cx) ∧ w'.cell? ⟨B, 0, none⟩ = some (.int .u64 E) ∧ w'.cell? ⟨B, 1, none⟩ = some (.slice a n c)) := fun u h => (ST1.out u ax cx rawx (MX.out u h)).mono fun e w' ⟨h1, h2⟩ => ⟨h1, KE.out u w' h h2⟩
  have H18 : Hid (∀ u, Hid (V.grownBy u none) → Calls Tryz.prog 18 #[.agg #[.int .u64 E, .slice a n c], .int .i64 id] u fun e w' => e = .returned (.int .i64 qs) ∧ Hid (V.grownBy w' none) ∧ w'.cell? ⟨Bx, 0, none⟩ = some (.int .u64 E) ∧ w'.cell? ⟨Bx, 1, none⟩ = some (.slice ax n cx) ∧ w'.cell? ⟨B, 0, none⟩ = some (.int .u64 E) ∧ w'.cell? ⟨B, 1, none⟩ = some (.slice a n c)) := fun u h => (ST2.out u a c raw (MR.out u h)).mono fun e w' ⟨h1, h2⟩ => ⟨h1, KE.out u w' h h2⟩
  have H20 : Hid (∀ u, Hid (V.grownBy u none) → Calls Tryz.prog 20 #[.int .i64 id] u fun e w' => ∃ a' c', e = .returned (.slice a' NT c') ∧ Hid (SRd wordE w' a' TL) ∧ Hid (u.grownBy w' none) ∧ Hid (V.grownBy w' none) ∧ w'.cell? ⟨Bx, 0, none⟩ = some (.int .u64 E) ∧ w'.cell? ⟨Bx, 1, none⟩ = some (.slice ax n cx) ∧ w'.cell? ⟨B, 0, none⟩ = some (.int .u64 E) ∧ w'.cell? ⟨B, 1, none⟩ = some (.slice a n c)) := fun u h => (TK1.out u).mono fun e w' ⟨a', c', h1, h2, h3⟩ => ⟨a', c', h1, h2, h3, KE.out u w' h h3⟩
  have H21 : Hid (∀ u, Hid (V.grownBy u none) → Calls Tryz.prog 21 #[.int .i64 id] u fun e w' => ∃ a' c', e = .returned (.slice a' NT c') ∧ Hid (SRd wordE w' a' TL) ∧ Hid (u.grownBy w' none) ∧ Hid (V.grownBy w' none) ∧ w'.cell? ⟨Bx, 0, none⟩ = some (.int .u64 E) ∧ w'.cell? ⟨Bx, 1, none⟩ = some (.slice ax n cx) ∧ w'.cell? ⟨B, 0, none⟩ = some (.int .u64 E) ∧ w'.cell? ⟨B, 1, none⟩ = some (.slice a n c)) := fun u h => (TK2.out u).mono fun e w' ⟨a', c', h1, h2, h3⟩ => ⟨a', c', h1, h2, h3, KE.out u w' h h3⟩
  have H19 : Hid (∀ u a' b' c' d', Hid (V.grownBy u none) → Hid (SRd wordE u a' TL) → Hid (SRd wordE u b' TL) → Calls Tryz.prog 19 #[.slice a' NT c', .slice b' NT d'] u fun e w' => e = .returned (.bool true) ∧ Hid (V.grownBy w' none) ∧ w'.cell? ⟨Bx, 0, none⟩ = some (.int .u64 E) ∧ w'.cell? ⟨Bx, 1, none⟩ = some (.slice ax n cx) ∧ w'.cell? ⟨B, 0, none⟩ = some (.int .u64 E) ∧ w'.cell? ⟨B, 1, none⟩ = some (.slice a n c)) := fun u a' b' c' d' h h2 h3 => (SW.out u a' b' c' d' h2.out h3.out).mono fun e w' ⟨h1, h4⟩ => ⟨h1, KE.out u w' h h4⟩
  have hq1 : (qc != qc) = false := by simp
  have hq2 : (qs != qs) = false := by simp
  go_cut [74] from 47 (fun t74 wx => t74 = .bool false ∧ V.grownBy wx none)
  case first =>
    go_region_held3 (fun u => Hid (V.grownBy u none) ∧ u.cell? ⟨Bx, 0, none⟩ = some (.int .u64 E) ∧ u.cell? ⟨Bx, 1, none⟩ = some (.slice ax n cx) ∧ u.cell? ⟨B, 0, none⟩ = some (.int .u64 E) ∧ u.cell? ⟨B, 1, none⟩ = some (.slice a n c)) (first | exact ⟨HDR, x0, x1, y0, y1⟩ | (refine ⟨?_, ?_, ?_, ?_, ?_⟩ <;> assumption)) (first | (go_at_call 14; refine (H14.out _ ?h1).mono ?_; (case h1 => first | exact HDR | assumption); rintro e z14 ⟨rfl, s14, i14, j14, k14, l14⟩) | (go_at_call 15; refine (H15.out _ ?h1).mono ?_; (case h1 => first | exact HDR | assumption); rintro e z15 ⟨rfl, s15, i15, j15, k15, l15⟩) | (go_at_call 16; refine (H16.out _ ?h1).mono ?_; (case h1 => first | exact HDR | assumption); rintro e z16 ⟨rfl, s16, i16, j16, k16, l16⟩) | (go_at_call 17; refine (H17.out _ ?h1).mono ?_; (case h1 => first | exact HDR | assumption); rintro e z17 ⟨rfl, s17, i17, j17, k17, l17⟩) | (go_at_call 18; refine (H18.out _ ?h1).mono ?_; (case h1 => first | exact HDR | assumption); rintro e z18 ⟨rfl, s18, i18, j18, k18, l18⟩) | (go_at_call 20; refine (H20.out _ ?h1).mono ?_; (case h1 => first | exact HDR | assumption); rintro e z20 ⟨a7, c7, rfl, t7, g7, s20, i20, j20, k20, l20⟩) | (go_at_call 21; refine (H21.out _ ?h1).mono ?_; (case h1 => first | exact HDR | assumption); rintro e z21 ⟨a8, c8, rfl, t8, g8, s21, i21, j21, k21, l21⟩) | (go_at_call 19; refine (H19.out _ a7 a8 c7 c8 ?h1 ?h2 ?h3).mono ?_; (case h1 => first | exact HDR | assumption); (case h2 => first | exact t7 | exact t7.out.grown g8.out (by simp)); (case h3 => first | exact t8 | exact t8.out.grown g7.out (by simp)); rintro e z19 ⟨rfl, s19, i19, j19, k19, l19⟩))
    all_goals (go_wp2_with fail; go_meet)
    all_goals (first | exact ⟨rfl, s19.out⟩ | skip)
  case rest =>
    obtain ⟨rfl, hgx⟩ := hcut
    clear x0 x1 y0 y1 KE MX MR H14 H15 H16 H17 H18 H20 H21 H19 hq1 hq2 HDR
    have HGc : Hid (w.grownBy wc none) := HGV.out.trans hgx
    have gF := World.grownBy_alloc wc (.cells #[.int .i64 0, .int .i64 1, .int .i64 2, .int .i64 3] 3) none
    have gT := World.grownBy_alloc (wc.alloc (.cells #[.int .i64 0, .int .i64 1, .int .i64 2, .int .i64 3] 3)) (.cells #[.int .i64 1, .int .i64 2, .int .i64 3, .int .i64 0] 3) none
    have HGY : Hid (V.grownBy ((wc.alloc (.cells #[.int .i64 0, .int .i64 1, .int .i64 2, .int .i64 3] 3)).alloc (.cells #[.int .i64 1, .int .i64 2, .int .i64 3, .int .i64 0] 3)) none) := (hgx.trans gF).trans gT
    obtain ⟨Fb, eF⟩ : ∃ b, wc.heap.size = b := ⟨_, rfl⟩
    have EF : Hid (wc.heap.size = Fb) := eF
    have sF : (wc.alloc (.cells #[.int .i64 0, .int .i64 1, .int .i64 2, .int .i64 3] 3)).heap.size = Fb + 1 := by rw [size_alloc, eF]
    have hF : ((wc.alloc (.cells #[.int .i64 0, .int .i64 1, .int .i64 2, .int .i64 3] 3)).alloc (.cells #[.int .i64 1, .int .i64 2, .int .i64 3, .int .i64 0] 3)).heap[Fb]? = some (.cells #[.int .i64 0, .int .i64 1, .int .i64 2, .int .i64 3] 3 (0, 0)) := by
      have h9 := heap_alloc_new wc (.cells #[.int .i64 0, .int .i64 1, .int .i64 2, .int .i64 3] 3)
      rw [eF] at h9
      rw [gT.block Fb (by omega) (by simp)]; exact h9
    have hT : ((wc.alloc (.cells #[.int .i64 0, .int .i64 1, .int .i64 2, .int .i64 3] 3)).alloc (.cells #[.int .i64 1, .int .i64 2, .int .i64 3, .int .i64 0] 3)).heap[Fb + 1]? = some (.cells #[.int .i64 1, .int .i64 2, .int .i64 3, .int .i64 0] 3 (0, 0)) := by
      have h9 := heap_alloc_new (wc.alloc (.cells #[.int .i64 0, .int .i64 1, .int .i64 2, .int .i64 3] 3)) (.cells #[.int .i64 1, .int .i64 2, .int .i64 3, .int .i64 0] 3)
      rw [sF] at h9
      exact h9
    have HFT : Hid (((wc.alloc (.cells #[.int .i64 0, .int .i64 1, .int .i64 2, .int .i64 3] 3)).alloc (.cells #[.int .i64 1, .int .i64 2, .int .i64 3, .int .i64 0] 3)).heap[Fb]? = some (.cells #[.int .i64 0, .int .i64 1, .int .i64 2, .int .i64 3] 3 (0, 0)) ∧ ((wc.alloc (.cells #[.int .i64 0, .int .i64 1, .int .i64 2, .int .i64 3] 3)).alloc (.cells #[.int .i64 1, .int .i64 2, .int .i64 3, .int .i64 0] 3)).heap[Fb + 1]? = some (.cells #[.int .i64 1, .int .i64 2, .int .i64 3, .int .i64 0] 3 (0, 0))) := ⟨hF, hT⟩
    have hbx : ((wc.alloc (.cells #[.int .i64 0, .int .i64 1, .int .i64 2, .int .i64 3] 3)).alloc (.cells #[.int .i64 1, .int .i64 2, .int .i64 3, .int .i64 0] 3)).heap[Bx]? = some (.cells #[.int .u64 E, .slice ax n cx] 25 (0, 0)) := by rw [HGY.out.block Bx (Array.getElem?_eq_some_iff.1 HBxV.out).1 (by simp)]; exact HBxV.out
    have HFB : Hid (Bx + 3 ≤ Fb) := by
      show _ ≤ _
      have h1 := HSZ4.out
      have h2 := hgx.size
      have h3 := HBH0.out
      have h4 := HBH1.out
      have h5 := HBH2.out
      have h6 := HBH3.out
      omega
    have HFH0 : Hid (h3 ≤ Fb) := by show _ ≤ _; rw [← eF]; exact Nat.le_trans HSZ4.out hgx.size
    have C5 := spoil_ring E ax n cx bx Bx rawx ((wc.alloc (.cells #[.int .i64 0, .int .i64 1, .int .i64 2, .int .i64 3] 3)).alloc (.cells #[.int .i64 1, .int .i64 2, .int .i64 3, .int .i64 0] 3)) (HXS.out.md (Md.of (base := Bx) (hi := Bx) (HWZ.out.trans HGY.out) (by simp)) (.inl (Nat.le_refl _))) hz (by rw [size_alloc, sF]; have := HFB.out; omega)
    have HYB : Hid (((wc.alloc (.cells #[.int .i64 0, .int .i64 1, .int .i64 2, .int .i64 3] 3)).alloc (.cells #[.int .i64 1, .int .i64 2, .int .i64 3, .int .i64 0] 3)).heap[B]? = some (.cells #[.int .u64 E, .slice a n c] 25 (0, 0))) := by show _ = _; rw [HGY.out.block B (Array.getElem?_eq_some_iff.1 HBV.out).1 (by simp)]; exact HBV.out
    have HYA : Hid (GA ((wc.alloc (.cells #[.int .i64 0, .int .i64 1, .int .i64 2, .int .i64 3] 3)).alloc (.cells #[.int .i64 1, .int .i64 2, .int .i64 3, .int .i64 0] 3)) (Bx + 1) (Bx + 2) #[.int .u64 E0, .slice A0 N0 C0, .int .u64 E1, .slice A1 N1 C1, .int .u64 E2, .slice A2 N2 C2, .int .u64 E3, .slice A3 N3 C3] #[.int .i64 q0, .int .i64 q1, .int .i64 q2, .int .i64 q3]) := HGA.out.grown HGY.out
    have HYG : Hid (w.grownBy ((wc.alloc (.cells #[.int .i64 0, .int .i64 1, .int .i64 2, .int .i64 3] 3)).alloc (.cells #[.int .i64 1, .int .i64 2, .int .i64 3, .int .i64 0] 3)) none) := HGV.out.trans HGY.out
    replace HGG0 : Hid (Got ((wc.alloc (.cells #[.int .i64 0, .int .i64 1, .int .i64 2, .int .i64 3] 3)).alloc (.cells #[.int .i64 1, .int .i64 2, .int .i64 3, .int .i64 0] 3)) b0 h0 A0 N0 C0 M0 R0) := HGG0.out.grown HGY.out
    replace HGG1 : Hid (Got ((wc.alloc (.cells #[.int .i64 0, .int .i64 1, .int .i64 2, .int .i64 3] 3)).alloc (.cells #[.int .i64 1, .int .i64 2, .int .i64 3, .int .i64 0] 3)) b1 h1 A1 N1 C1 M1 R1) := HGG1.out.grown HGY.out
    replace HGG2 : Hid (Got ((wc.alloc (.cells #[.int .i64 0, .int .i64 1, .int .i64 2, .int .i64 3] 3)).alloc (.cells #[.int .i64 1, .int .i64 2, .int .i64 3, .int .i64 0] 3)) b2 h2 A2 N2 C2 M2 R2) := HGG2.out.grown HGY.out
    replace HGG3 : Hid (Got ((wc.alloc (.cells #[.int .i64 0, .int .i64 1, .int .i64 2, .int .i64 3] 3)).alloc (.cells #[.int .i64 1, .int .i64 2, .int .i64 3, .int .i64 0] 3)) b3 h3 A3 N3 C3 M3 R3) := HGG3.out.grown HGY.out
    obtain ⟨x0, x1⟩ := cell2 hbx
    clear gF gT hgx eF sF hF hT hbx
    go_wp2_with fail
    try rw [EF.out]
    generalize ((wc.alloc (.cells #[.int .i64 0, .int .i64 1, .int .i64 2, .int .i64 3] 3)).alloc (.cells #[.int .i64 1, .int .i64 2, .int .i64 3, .int .i64 0] 3)) = Y at *
    clear x0 x1
    refine C5.mono ?_
    clear C5
    rintro e u9 ⟨rfl, md9⟩
    have HB9 : Hid (u9.heap[B]? = some (.cells #[.int .u64 E, .slice a n c] 25 (0, 0))) := by show _ = _; rw [md9.block B (Array.getElem?_eq_some_iff.1 HYB.out).1 (.inl HBB.out.1)]; exact HYB.out
    have HA9 : Hid (GA u9 (Bx + 1) (Bx + 2) #[.int .u64 E0, .slice A0 N0 C0, .int .u64 E1, .slice A1 N1 C1, .int .u64 E2, .slice A2 N2 C2, .int .u64 E3, .slice A3 N3 C3] #[.int .i64 q0, .int .i64 q1, .int .i64 q2, .int .i64 q3]) := HYA.out.md md9 ⟨.inr (by omega), .inr (by omega)⟩
    have HFT9 : Hid (u9.heap[Fb]? = some (.cells #[.int .i64 0, .int .i64 1, .int .i64 2, .int .i64 3] 3 (0, 0)) ∧ u9.heap[Fb + 1]? = some (.cells #[.int .i64 1, .int .i64 2, .int .i64 3, .int .i64 0] 3 (0, 0))) := by
      have h1 := HFB.out
      exact ⟨by rw [md9.block Fb (Array.getElem?_eq_some_iff.1 HFT.out.1).1 (.inr (by omega))]; exact HFT.out.1, by rw [md9.block (Fb + 1) (Array.getElem?_eq_some_iff.1 HFT.out.2).1 (.inr (by omega))]; exact HFT.out.2⟩
    have HG9 : Hid (w.grownBy u9 none) := md_gb HYG.out md9 (by have := HBB.out; have := EB.out; omega)
    replace HGG0 : Hid (Got u9 b0 h0 A0 N0 C0 M0 R0) := HGG0.out.md md9 (by have :=  HBH0.out; omega)
    replace HGG1 : Hid (Got u9 b1 h1 A1 N1 C1 M1 R1) := HGG1.out.md md9 (by have := HBH0.out; have := HBH1.out; omega)
    replace HGG2 : Hid (Got u9 b2 h2 A2 N2 C2 M2 R2) := HGG2.out.md md9 (by have := HBH0.out; have := HBH1.out; have := HBH2.out; omega)
    replace HGG3 : Hid (Got u9 b3 h3 A3 N3 C3 M3 R3) := HGG3.out.md md9 (by have := HBH0.out; have := HBH1.out; have := HBH2.out; have := HBH3.out; omega)
    have HFH : Hid (h3 ≤ Fb) := HFH0.out
    clear md9 HYB HYA HYG HFT HGA HBV HBxV HGV HWZ
    go_wp2
    go_loopw [10] (fun t10 wr => ∃ (i : Nat), i ≤ 4 ∧ t10 = .int .i64 i ∧ w.grownBy wr none ∧ wr.heap[B]? = some (.cells #[.int .u64 E, .slice a n c] 25 (0, 0)) ∧ GA wr (Bx + 1) (Bx + 2) #[.int .u64 E0, .slice A0 N0 C0, .int .u64 E1, .slice A1 N1 C1, .int .u64 E2, .slice A2 N2 C2, .int .u64 E3, .slice A3 N3 C3] #[.int .i64 q0, .int .i64 q1, .int .i64 q2, .int .i64 q3] ∧ (wr.heap[Fb]? = some (.cells #[.int .i64 0, .int .i64 1, .int .i64 2, .int .i64 3] 3 (0, 0)) ∧ wr.heap[Fb + 1]? = some (.cells #[.int .i64 1, .int .i64 2, .int .i64 3, .int .i64 0] 3 (0, 0))) ∧ (i ≤ 0 → Got wr b0 h0 A0 N0 C0 M0 R0) ∧ (i ≤ 1 → Got wr b1 h1 A1 N1 C1 M1 R1) ∧ (i ≤ 2 → Got wr b2 h2 A2 N2 C2 M2 R2) ∧ (i ≤ 3 → Got wr b3 h3 A3 N3 C3 M3 R3)) (fun t10 _ => 4 - (intOf t10).toNat)
    case atStart => exact ⟨0, by omega, rfl, HG9.out, HB9.out, HA9.out, HFT9.out, fun _ => HGG0.out, fun _ => HGG1.out, fun _ => HGG2.out, fun _ => HGG3.out⟩
    case round =>
      clear HG9 HB9 HA9 HFT9 HGG0 HGG1 HGG2 HGG3
      obtain ⟨i, hi, rfl, hg, hb, hga, hft, k0, k1, k2, k3⟩ := hrel
      have HG : Hid (w.grownBy wr none) := hg
      have HB : Hid (wr.heap[B]? = some (.cells #[.int .u64 E, .slice a n c] 25 (0, 0))) := hb
      have HA : Hid (GA wr (Bx + 1) (Bx + 2) #[.int .u64 E0, .slice A0 N0 C0, .int .u64 E1, .slice A1 N1 C1, .int .u64 E2, .slice A2 N2 C2, .int .u64 E3, .slice A3 N3 C3] #[.int .i64 q0, .int .i64 q1, .int .i64 q2, .int .i64 q3]) := hga
      have HFT : Hid (wr.heap[Fb]? = some (.cells #[.int .i64 0, .int .i64 1, .int .i64 2, .int .i64 3] 3 (0, 0)) ∧ wr.heap[Fb + 1]? = some (.cells #[.int .i64 1, .int .i64 2, .int .i64 3, .int .i64 0] 3 (0, 0))) := hft
      have K0 : Hid (i ≤ 0 → Got wr b0 h0 A0 N0 C0 M0 R0) := k0
      have K1 : Hid (i ≤ 1 → Got wr b1 h1 A1 N1 C1 M1 R1) := k1
      have K2 : Hid (i ≤ 2 → Got wr b2 h2 A2 N2 C2 M2 R2) := k2
      have K3 : Hid (i ≤ 3 → Got wr b3 h3 A3 N3 C3 M3 R3) := k3
      have HSW : Hid (Fb < wr.heap.size) := (Array.getElem?_eq_some_iff.1 hft.1).1
      clear hg hb hga hft k0 k1 k2 k3
      by_cases hlt : i < 4
      · rcases (show i = 0 ∨ i = 1 ∨ i = 2 ∨ i = 3 by omega) with rfl | rfl | rfl | rfl
        · have HK0 : Hid (Got wr b0 h0 A0 N0 C0 M0 R0) := K0.out (by omega)
          obtain ⟨y0, y1⟩ := cell2 HB.out
          have yF : wr.cell? ⟨Fb, 0, none⟩ = some (.int .i64 0) := by rw [cell_of_row _ _ _ _ _ _ HFT.out.1]; rfl
          have yT : wr.cell? ⟨Fb + 1, 0, none⟩ = some (.int .i64 1) := by rw [cell_of_row _ _ _ _ _ _ HFT.out.2]; rfl
          have KS : Hid (∀ u, wr.grownBy u none → u.cell? ⟨B, 0, none⟩ = some (.int .u64 E) ∧ u.cell? ⟨B, 1, none⟩ = some (.slice a n c) ∧ u.cell? ⟨Fb, 0, none⟩ = some (.int .i64 0) ∧ u.cell? ⟨Fb + 1, 0, none⟩ = some (.int .i64 1)) := fun u g => ⟨g.cell y0 (by simp), g.cell y1 (by simp), g.cell yF (by simp), g.cell yT (by simp)⟩
          have HDR : Hid (wr.grownBy wr.drew none) := gb_drew (World.grownBy.refl _ _)
          have H23 : Hid (∀ u, Hid (wr.grownBy u none) → Calls Tryz.prog 23 #[.agg #[.int .u64 E, .slice a n c], .int .i64 id, .int .i64 0, .int .i64 1] u fun e w' => ∃ a' c' raw', e = .returned (.tuple #[.agg #[.int .u64 E0, .slice a' N0 c'], .int .i64 q0]) ∧ Hid (MsRd w' a' M0 raw') ∧ Hid (u.grownBy w' none)) := fun u h => (RC0.out u a c raw (HR.out.grown (HG.out.trans h.out))).mono fun e w' ⟨a', c', raw', h1, h2, h3⟩ => ⟨a', c', raw', h1, h2, h3⟩
          go_upto_region 16 with fail
          go_cut [11, 12] from 79 to 113 (fun t11 t12 wx => ∃ D aw cw raww, t11 = .pointer (some ⟨D, 0, none⟩) ∧ t12 = .int .i64 q0 ∧ wr.grownBy wx none ∧ wx.heap[D]? = some (.cells #[.int .u64 E0, .slice aw N0 cw] 25 (0, 0)) ∧ MsRd wx aw M0 raww)
          case first =>
            refine wp_region_held_drew (S := fun u => u.cell? ⟨B, 0, none⟩ = some (.int .u64 E) ∧ u.cell? ⟨B, 1, none⟩ = some (.slice a n c) ∧ u.cell? ⟨Fb, 0, none⟩ = some (.int .i64 0) ∧ u.cell? ⟨Fb + 1, 0, none⟩ = some (.int .i64 1)) (by kernel_rfl) (KS.out _ HDR.out) (fun hHeld => ?_)
            refine wpAnyH_take (i := 0) (v := .agg #[.int .u64 E, .slice a n c]) rfl (by kernel_rfl) (by kernel_rfl) (by kernel_rfl) (fun _ _ _ h => h) (Or.inl ⟨by rfl, fun w hSw => ?_⟩) (by assumption) ?_
            · obtain ⟨t0, t1, t2, t3⟩ := hSw; go_simp
            (try simp only [Act.put]); (try simp only [List.setIfInBounds_toArray]); (try simp only [List.set_cons_succ]); (try simp only [List.set_cons_zero])
            refine wpAnyH_take (i := 1) (v := .int .i64 id) rfl (by kernel_rfl) (by kernel_rfl) (by kernel_rfl) (fun _ _ _ h => h) (Or.inl ⟨by rfl, fun w hSw => ?_⟩) (by assumption) ?_
            · go_simp
            (try simp only [Act.put]); (try simp only [List.setIfInBounds_toArray]); (try simp only [List.set_cons_succ]); (try simp only [List.set_cons_zero])
            refine wpAnyH_take (i := 2) (v := .slice (some ⟨Fb, 0, none⟩) 4 4) rfl (by kernel_rfl) (by kernel_rfl) (by kernel_rfl) (fun _ _ _ h => h) (Or.inl ⟨by rfl, fun w hSw => ?_⟩) (by assumption) ?_
            · go_simp
            (try simp only [Act.put]); (try simp only [List.setIfInBounds_toArray]); (try simp only [List.set_cons_succ]); (try simp only [List.set_cons_zero])
            refine wpAnyH_take (i := 3) (v := .int .i64 0) rfl (by kernel_rfl) (by kernel_rfl) (by kernel_rfl) (fun _ _ _ h => h) (Or.inl ⟨by rfl, fun w hSw => ?_⟩) (by assumption) ?_
            · go_simp
            (try simp only [Act.put]); (try simp only [List.setIfInBounds_toArray]); (try simp only [List.set_cons_succ]); (try simp only [List.set_cons_zero])
            refine wpAnyH_take (i := 4) (v := .pointer (some ⟨Fb, 0, none⟩)) rfl (by kernel_rfl) (by kernel_rfl) (by kernel_rfl) (fun _ _ _ h => h) (Or.inl ⟨by rfl, fun w hSw => ?_⟩) (by assumption) ?_
            · go_simp
            (try simp only [Act.put]); (try simp only [List.setIfInBounds_toArray]); (try simp only [List.set_cons_succ]); (try simp only [List.set_cons_zero])
            refine wpAnyH_take (i := 5) (v := .int .i64 0) rfl (by kernel_rfl) (by kernel_rfl) (by kernel_rfl) (fun _ _ _ h => h) (Or.inl ⟨by rfl, fun w hSw => ?_⟩) (by assumption) ?_
            · obtain ⟨t0, t1, t2, t3⟩ := hSw; go_simp
            (try simp only [Act.put]); (try simp only [List.setIfInBounds_toArray]); (try simp only [List.set_cons_succ]); (try simp only [List.set_cons_zero])
            refine wpAnyH_take (i := 6) (v := .slice (some ⟨Fb + 1, 0, none⟩) 4 4) rfl (by kernel_rfl) (by kernel_rfl) (by kernel_rfl) (fun _ _ _ h => h) (Or.inl ⟨by rfl, fun w hSw => ?_⟩) (by assumption) ?_
            · go_simp
            (try simp only [Act.put]); (try simp only [List.setIfInBounds_toArray]); (try simp only [List.set_cons_succ]); (try simp only [List.set_cons_zero])
            refine wpAnyH_take (i := 7) (v := .int .i64 0) rfl (by kernel_rfl) (by kernel_rfl) (by kernel_rfl) (fun _ _ _ h => h) (Or.inl ⟨by rfl, fun w hSw => ?_⟩) (by assumption) ?_
            · go_simp
            (try simp only [Act.put]); (try simp only [List.setIfInBounds_toArray]); (try simp only [List.set_cons_succ]); (try simp only [List.set_cons_zero])
            refine wpAnyH_take (i := 8) (v := .pointer (some ⟨Fb + 1, 0, none⟩)) rfl (by kernel_rfl) (by kernel_rfl) (by kernel_rfl) (fun _ _ _ h => h) (Or.inl ⟨by rfl, fun w hSw => ?_⟩) (by assumption) ?_
            · go_simp
            (try simp only [Act.put]); (try simp only [List.setIfInBounds_toArray]); (try simp only [List.set_cons_succ]); (try simp only [List.set_cons_zero])
            refine wpAnyH_take (i := 9) (v := .int .i64 1) rfl (by kernel_rfl) (by kernel_rfl) (by kernel_rfl) (fun _ _ _ h => h) (Or.inl ⟨by rfl, fun w hSw => ?_⟩) (by assumption) ?_
            · obtain ⟨t0, t1, t2, t3⟩ := hSw; go_simp
            (try simp only [Act.put]); (try simp only [List.setIfInBounds_toArray]); (try simp only [List.set_cons_succ]); (try simp only [List.set_cons_zero])
            refine wpAnyH_ready (rs := [10, 14]) (by kernel_rfl) (by simp) (AllReadyH.cons (i := 10) rfl (fun K9 hK => ?_) (AllReadyH.cons (i := 14) rfl (fun K9 hK => ?_) AllReadyH.nil))
            · go_simp
              refine (H23.out _ HDR).mono ?_
              rintro e z23 ⟨aw, cw, raww, rfl, mw, g23⟩
              have HZ1 : Hid (wr.grownBy z23 none) := HDR.out.trans g23.out
              refine hK.out _ _ (KS.out _ HZ1.out) (fun hHeld => ?_)
              clear hK K9
              (try simp only [Act.put]); (try simp only [List.setIfInBounds_toArray]); (try simp only [List.set_cons_succ]); (try simp only [List.set_cons_zero])
              refine wpAnyH_take (i := 11) (v := .tuple #[.agg #[.int .u64 E0, .slice aw N0 cw], .int .i64 q0]) rfl (by kernel_rfl) (by kernel_rfl) (by kernel_rfl) (fun _ _ _ h => h) (Or.inl ⟨by rfl, fun w hSw => ?_⟩) (by assumption) ?_
              · go_simp
              (try simp only [Act.put]); (try simp only [List.setIfInBounds_toArray]); (try simp only [List.set_cons_succ]); (try simp only [List.set_cons_zero])
              refine wpAnyH_take (i := 12) (v := .agg #[.int .u64 E0, .slice aw N0 cw]) rfl (by kernel_rfl) (by kernel_rfl) (by kernel_rfl) (fun _ _ _ h => h) (Or.inl ⟨by rfl, fun w hSw => ?_⟩) (by assumption) ?_
              · go_simp
              (try simp only [Act.put]); (try simp only [List.setIfInBounds_toArray]); (try simp only [List.set_cons_succ]); (try simp only [List.set_cons_zero])
              refine wpAnyH_take (i := 13) (v := .int .i64 q0) rfl (by kernel_rfl) (by kernel_rfl) (by kernel_rfl) (fun _ _ _ h => h) (Or.inl ⟨by rfl, fun w hSw => ?_⟩) (by assumption) ?_
              · go_simp
              (try simp only [Act.put]); (try simp only [List.setIfInBounds_toArray]); (try simp only [List.set_cons_succ]); (try simp only [List.set_cons_zero])
              refine wpAnyH_ready (rs := [14]) (by kernel_rfl) (by simp) (AllReadyH.cons (i := 14) rfl (fun K9 hK => ?_) AllReadyH.nil)
              go_simp
              obtain ⟨D, eD⟩ : ∃ D, z23.heap.size = D := ⟨_, rfl⟩
              have ED : Hid (z23.heap.size = D) := eD
              have HZD : Hid ((z23.alloc (.cells #[.int .u64 0, .slice none 0 0] 25)).heap[D]? = some (.cells #[.int .u64 0, .slice none 0 0] 25 (0, 0))) := by show _ = _; rw [← eD]; exact heap_alloc_new z23 _
              have HZG : Hid (wr.grownBy (z23.alloc (.cells #[.int .u64 0, .slice none 0 0] 25)) none) := HZ1.out.trans (World.grownBy_alloc _ _ none)
              have HZM : Hid (MsRd (z23.alloc (.cells #[.int .u64 0, .slice none 0 0] 25)) aw M0 raww) := mw.out.grown (World.grownBy_alloc _ _ none)
              have HDL : Hid (wr.heap.size ≤ D) := by show _ ≤ _; rw [← eD]; exact HZ1.out.size
              clear eD
              refine hK.out _ _ (KS.out _ HZG.out) (fun hHeld => ?_)
              clear hK K9
              (try simp only [Act.put]); (try simp only [List.setIfInBounds_toArray]); (try simp only [List.set_cons_succ]); (try simp only [List.set_cons_zero])
              try rw [ED.out]
              generalize z23.alloc (.cells #[.int .u64 0, .slice none 0 0] 25) = ZA at *
              obtain ⟨c0, c1⟩ := cell2 HZD.out
              have f0 := free_row HZD.out 0
              have f1 := free_row HZD.out 1
              refine wpAnyH_ready (rs := [15]) (by kernel_rfl) (by simp) (AllReadyH.cons (i := 15) rfl (fun K9 hK => ?_) AllReadyH.nil)
              go_simp
              have HXD : Hid (((ZA.setCell ⟨D, 0, none⟩ (.int .u64 E0)).setCell ⟨D, 1, none⟩ (.slice aw N0 cw)).heap[D]? = some (.cells #[.int .u64 E0, .slice aw N0 cw] 25 (0, 0))) := pair_set HZD.out _ _
              have gDD : ZA.grownBy ((ZA.setCell ⟨D, 0, none⟩ (.int .u64 E0)).setCell ⟨D, 1, none⟩ (.slice aw N0 cw)) (some D) := gb_trans (gb_set (g := D) rfl) (gb_set (g := D) rfl) (fun j hj => .inr hj)
              have HXG : Hid (wr.grownBy ((ZA.setCell ⟨D, 0, none⟩ (.int .u64 E0)).setCell ⟨D, 1, none⟩ (.slice aw N0 cw)) none) := gb_trans HZG.out gDD (fun j hj => .inl (by cases hj; exact HDL.out))
              have HXW : Hid (MsRd ((ZA.setCell ⟨D, 0, none⟩ (.int .u64 E0)).setCell ⟨D, 1, none⟩ (.slice aw N0 cw)) aw M0 raww) := msrd_box HZD.out HZM.out gDD
              refine hK.out _ _ (KS.out _ HXG.out) (fun hHeld => ?_)
              clear hK K9 c0 c1 f0 f1 gDD
              (try simp only [Act.put]); (try simp only [List.setIfInBounds_toArray]); (try simp only [List.set_cons_succ]); (try simp only [List.set_cons_zero])
              refine wpAnyH_take (i := 16) (v := .int .i64 q0) rfl (by kernel_rfl) (by kernel_rfl) (by kernel_rfl) (fun _ _ _ h => h) (Or.inl ⟨by rfl, fun w hSw => ?_⟩) (by assumption) ?_
              · go_simp
              (try simp only [Act.put]); (try simp only [List.setIfInBounds_toArray]); (try simp only [List.set_cons_succ]); (try simp only [List.set_cons_zero])
              refine wpAnyH_done (by kernel_rfl) ?_ _
              clear hHeld
              go_wp2
              try (rename_i hd9; cases hd9)
              go_meet
              exact ⟨D, aw, cw, raww, rfl, rfl, HXG.out, HXD.out, HXW.out⟩
            · go_simp
              obtain ⟨D, eD⟩ : ∃ D, wr.heap.size = D := ⟨_, rfl⟩
              have ED : Hid (wr.heap.size = D) := eD
              have HZ0 : Hid ((wr.drew.alloc (.cells #[.int .u64 0, .slice none 0 0] 25)).heap[D]? = some (.cells #[.int .u64 0, .slice none 0 0] 25 (0, 0))) := by show _ = _; rw [← eD]; exact heap_alloc_new wr.drew _
              have HZ1 : Hid (wr.grownBy (wr.drew.alloc (.cells #[.int .u64 0, .slice none 0 0] 25)) none) := HDR.out.trans (World.grownBy_alloc _ _ none)
              have HDL : Hid (wr.heap.size ≤ D) := by show _ ≤ _; omega
              clear eD
              refine hK.out _ _ (KS.out _ HZ1.out) (fun hHeld => ?_)
              clear hK K9
              (try simp only [Act.put]); (try simp only [List.setIfInBounds_toArray]); (try simp only [List.set_cons_succ]); (try simp only [List.set_cons_zero])
              try rw [ED.out]
              refine wpAnyH_ready (rs := [10]) (by kernel_rfl) (by simp) (AllReadyH.cons (i := 10) rfl (fun K9 hK => ?_) AllReadyH.nil)
              go_simp
              refine (H23.out _ HZ1).mono ?_
              rintro e ZA ⟨aw, cw, raww, rfl, mw, g23⟩
              have HZG : Hid (wr.grownBy ZA none) := HZ1.out.trans g23.out
              have HZD : Hid (ZA.heap[D]? = some (.cells #[.int .u64 0, .slice none 0 0] 25 (0, 0))) := by show _ = _; rw [g23.out.block D (Array.getElem?_eq_some_iff.1 HZ0.out).1 (by simp)]; exact HZ0.out
              have HZM : Hid (MsRd ZA aw M0 raww) := mw.out
              refine hK.out _ _ (KS.out _ HZG.out) (fun hHeld => ?_)
              clear hK K9
              (try simp only [Act.put]); (try simp only [List.setIfInBounds_toArray]); (try simp only [List.set_cons_succ]); (try simp only [List.set_cons_zero])
              refine wpAnyH_take (i := 11) (v := .tuple #[.agg #[.int .u64 E0, .slice aw N0 cw], .int .i64 q0]) rfl (by kernel_rfl) (by kernel_rfl) (by kernel_rfl) (fun _ _ _ h => h) (Or.inl ⟨by rfl, fun w hSw => ?_⟩) (by assumption) ?_
              · go_simp
              (try simp only [Act.put]); (try simp only [List.setIfInBounds_toArray]); (try simp only [List.set_cons_succ]); (try simp only [List.set_cons_zero])
              refine wpAnyH_take (i := 12) (v := .agg #[.int .u64 E0, .slice aw N0 cw]) rfl (by kernel_rfl) (by kernel_rfl) (by kernel_rfl) (fun _ _ _ h => h) (Or.inl ⟨by rfl, fun w hSw => ?_⟩) (by assumption) ?_
              · go_simp
              (try simp only [Act.put]); (try simp only [List.setIfInBounds_toArray]); (try simp only [List.set_cons_succ]); (try simp only [List.set_cons_zero])
              refine wpAnyH_take (i := 13) (v := .int .i64 q0) rfl (by kernel_rfl) (by kernel_rfl) (by kernel_rfl) (fun _ _ _ h => h) (Or.inl ⟨by rfl, fun w hSw => ?_⟩) (by assumption) ?_
              · go_simp
              (try simp only [Act.put]); (try simp only [List.setIfInBounds_toArray]); (try simp only [List.set_cons_succ]); (try simp only [List.set_cons_zero])
              obtain ⟨c0, c1⟩ := cell2 HZD.out
              have f0 := free_row HZD.out 0
              have f1 := free_row HZD.out 1
              refine wpAnyH_ready (rs := [15]) (by kernel_rfl) (by simp) (AllReadyH.cons (i := 15) rfl (fun K9 hK => ?_) AllReadyH.nil)
              go_simp
              have HXD : Hid (((ZA.setCell ⟨D, 0, none⟩ (.int .u64 E0)).setCell ⟨D, 1, none⟩ (.slice aw N0 cw)).heap[D]? = some (.cells #[.int .u64 E0, .slice aw N0 cw] 25 (0, 0))) := pair_set HZD.out _ _
              have gDD : ZA.grownBy ((ZA.setCell ⟨D, 0, none⟩ (.int .u64 E0)).setCell ⟨D, 1, none⟩ (.slice aw N0 cw)) (some D) := gb_trans (gb_set (g := D) rfl) (gb_set (g := D) rfl) (fun j hj => .inr hj)
              have HXG : Hid (wr.grownBy ((ZA.setCell ⟨D, 0, none⟩ (.int .u64 E0)).setCell ⟨D, 1, none⟩ (.slice aw N0 cw)) none) := gb_trans HZG.out gDD (fun j hj => .inl (by cases hj; exact HDL.out))
              have HXW : Hid (MsRd ((ZA.setCell ⟨D, 0, none⟩ (.int .u64 E0)).setCell ⟨D, 1, none⟩ (.slice aw N0 cw)) aw M0 raww) := msrd_box HZD.out HZM.out gDD
              refine hK.out _ _ (KS.out _ HXG.out) (fun hHeld => ?_)
              clear hK K9 c0 c1 f0 f1 gDD
              (try simp only [Act.put]); (try simp only [List.setIfInBounds_toArray]); (try simp only [List.set_cons_succ]); (try simp only [List.set_cons_zero])
              refine wpAnyH_take (i := 16) (v := .int .i64 q0) rfl (by kernel_rfl) (by kernel_rfl) (by kernel_rfl) (fun _ _ _ h => h) (Or.inl ⟨by rfl, fun w hSw => ?_⟩) (by assumption) ?_
              · go_simp
              (try simp only [Act.put]); (try simp only [List.setIfInBounds_toArray]); (try simp only [List.set_cons_succ]); (try simp only [List.set_cons_zero])
              refine wpAnyH_done (by kernel_rfl) ?_ _
              clear hHeld
              go_wp2
              try (rename_i hd9; cases hd9)
              go_meet
              exact ⟨D, aw, cw, raww, rfl, rfl, HXG.out, HXD.out, HXW.out⟩
          case rest =>
            obtain ⟨D, aw, cw, raww, rfl, rfl, hgx, hD, hmw⟩ := hcut
            clear y0 y1 yF yT KS HDR H23
            have HGx : Hid (w.grownBy wc none) := HG.out.trans hgx
            have HAx : Hid (GA wc (Bx + 1) (Bx + 2) #[.int .u64 E0, .slice A0 N0 C0, .int .u64 E1, .slice A1 N1 C1, .int .u64 E2, .slice A2 N2 C2, .int .u64 E3, .slice A3 N3 C3] #[.int .i64 q0, .int .i64 q1, .int .i64 q2, .int .i64 q3]) := HA.out.grown hgx
            have HKx : Hid (Got wc b0 h0 A0 N0 C0 M0 R0) := HK0.out.grown hgx
            have HGW : Hid (wr.grownBy wc none) := hgx
            have HMW : Hid (MsRd wc aw M0 raww) := hmw
            obtain ⟨d0, d1⟩ := cell2 hD
            have e0 : wc.cell? ⟨Bx + 2, 0, none⟩ = some (.int .i64 q0) := by rw [cell_of_row _ _ _ _ _ _ HAx.out.bad]; rfl
            have e1 : wc.cell? ⟨Bx + 1, 0, none⟩ = some (.int .u64 E0) := by rw [cell_of_row _ _ _ _ _ _ HAx.out.got]; rfl
            have e2 : wc.cell? ⟨Bx + 1, 1, none⟩ = some (.slice A0 N0 C0) := by rw [cell_of_row _ _ _ _ _ _ HAx.out.got]; rfl
            have HDR : Hid (wc.grownBy wc.drew none) := gb_drew (World.grownBy.refl _ _)
            have hqq : (q0 != q0) = false := by simp
            have H14 : Hid (∀ u, Hid (wc.grownBy u none) → Calls Tryz.prog 14 #[.agg #[.int .u64 E0, .slice A0 N0 C0], .agg #[.int .u64 E0, .slice aw N0 cw]] u fun e w' => e = .returned (.bool true) ∧ Hid (wc.grownBy w' none) ∧ w'.cell? ⟨Bx + 2, 0, none⟩ = some (.int .i64 q0) ∧ w'.cell? ⟨Bx + 1, 0, none⟩ = some (.int .u64 E0) ∧ w'.cell? ⟨Bx + 1, 1, none⟩ = some (.slice A0 N0 C0) ∧ w'.cell? ⟨D, 0, none⟩ = some (.int .u64 E0) ∧ w'.cell? ⟨D, 1, none⟩ = some (.slice aw N0 cw)) := fun u h => by
              refine (rsame E0 E0 A0 aw R0 raww M0 M0 N0 N0 C0 cw u (HKx.out.1.rd.1.grown h.out) (HMW.out.grown h.out) EL0.out EL0.out (by have := SML0.out.1; have := EL0.out; omega) (fun s hs => by have := SML0.out.2 s hs; omega)).mono ?_
              rintro e w' ⟨rfl, h2⟩
              have g := h.out.trans h2
              exact ⟨by simp, g, g.cell e0 (by simp), g.cell e1 (by simp), g.cell e2 (by simp), g.cell d0 (by simp), g.cell d1 (by simp)⟩
            clear hgx hD hmw
            go_upto_region 17 with fail
            go_region_held3 (fun u => Hid (wc.grownBy u none) ∧ u.cell? ⟨Bx + 2, 0, none⟩ = some (.int .i64 q0) ∧ u.cell? ⟨Bx + 1, 0, none⟩ = some (.int .u64 E0) ∧ u.cell? ⟨Bx + 1, 1, none⟩ = some (.slice A0 N0 C0) ∧ u.cell? ⟨D, 0, none⟩ = some (.int .u64 E0) ∧ u.cell? ⟨D, 1, none⟩ = some (.slice aw N0 cw)) (first | exact ⟨HDR, e0, e1, e2, d0, d1⟩ | (refine ⟨?_, ?_, ?_, ?_, ?_, ?_⟩ <;> assumption)) (first | (go_at_call 14; refine (H14.out _ ?h1).mono ?_; (case h1 => first | exact HDR | assumption); rintro e z14 ⟨rfl, s14, i14, j14, k14, l14, m14⟩) | fail)
            have HA2 : Hid (GA z14 (Bx + 1) (Bx + 2) #[.int .u64 E0, .slice A0 N0 C0, .int .u64 E1, .slice A1 N1 C1, .int .u64 E2, .slice A2 N2 C2, .int .u64 E3, .slice A3 N3 C3] #[.int .i64 q0, .int .i64 q1, .int .i64 q2, .int .i64 q3]) := HAx.out.grown s14.out
            have C7 := spoil_ring E0 A0 N0 C0 b0 h0 R0 z14 (HKx.out.grown s14.out).2 (by have := SML0.out.1; have := EL0.out; omega) (by have h9 := (HKx.out.grown s14.out); have := HFH.out; have := HSW.out; have := HBH0.out; have := HBH1.out; have := HBH2.out; have := HBH3.out; have := HGW.out.size; have := s14.out.size; omega)
            have HBz : Hid (z14.heap[B]? = some (.cells #[.int .u64 E, .slice a n c] 25 (0, 0))) := by show _ = _; rw [(HGW.out.trans s14.out).block B (Array.getElem?_eq_some_iff.1 HB.out).1 (by simp)]; exact HB.out
            have HFz : Hid (z14.heap[Fb]? = some (.cells #[.int .i64 0, .int .i64 1, .int .i64 2, .int .i64 3] 3 (0, 0)) ∧ z14.heap[Fb + 1]? = some (.cells #[.int .i64 1, .int .i64 2, .int .i64 3, .int .i64 0] 3 (0, 0))) := ⟨by rw [(HGW.out.trans s14.out).block Fb (Array.getElem?_eq_some_iff.1 HFT.out.1).1 (by simp)]; exact HFT.out.1, by rw [(HGW.out.trans s14.out).block (Fb + 1) (Array.getElem?_eq_some_iff.1 HFT.out.2).1 (by simp)]; exact HFT.out.2⟩
            have HGz : Hid (w.grownBy z14 none) := HGx.out.trans s14.out
            have HWz : Hid (wr.grownBy z14 none) := HGW.out.trans s14.out
            clear e0 e1 e2 d0 d1
            go_wp2_with fail
            refine C7.mono ?_
            clear C7
            rintro e z22 ⟨rfl, md⟩
            have bb := HBB.out
            have bb0 := HBH0.out
            have bb1 := HBH1.out
            have bb2 := HBH2.out
            have bb3 := HBH3.out
            have HE0 : Hid (w.grownBy z22 none) := md_gb HGz.out md (by have := EB.out; omega)
            have HE1 : Hid (z22.heap[B]? = some (.cells #[.int .u64 E, .slice a n c] 25 (0, 0))) := by show _ = _; rw [md.block B (Array.getElem?_eq_some_iff.1 HBz.out).1 (.inl (by omega))]; exact HBz.out
            have HE2 : Hid (GA z22 (Bx + 1) (Bx + 2) #[.int .u64 E0, .slice A0 N0 C0, .int .u64 E1, .slice A1 N1 C1, .int .u64 E2, .slice A2 N2 C2, .int .u64 E3, .slice A3 N3 C3] #[.int .i64 q0, .int .i64 q1, .int .i64 q2, .int .i64 q3]) := HA2.out.md md ⟨.inl (by omega), .inl (by omega)⟩
            have HE3 : Hid (z22.heap[Fb]? = some (.cells #[.int .i64 0, .int .i64 1, .int .i64 2, .int .i64 3] 3 (0, 0)) ∧ z22.heap[Fb + 1]? = some (.cells #[.int .i64 1, .int .i64 2, .int .i64 3, .int .i64 0] 3 (0, 0))) := ⟨by rw [md.block Fb (Array.getElem?_eq_some_iff.1 HFz.out.1).1 (.inr (by have := HFH.out; omega))]; exact HFz.out.1, by rw [md.block (Fb + 1) (Array.getElem?_eq_some_iff.1 HFz.out.2).1 (.inr (by have := HFH.out; omega))]; exact HFz.out.2⟩
            have J1 : Hid (Got z22 b1 h1 A1 N1 C1 M1 R1) := ((K1.out (by omega)).grown HWz.out).md md (by omega)
            have J2 : Hid (Got z22 b2 h2 A2 N2 C2 M2 R2) := ((K2.out (by omega)).grown HWz.out).md md (by omega)
            have J3 : Hid (Got z22 b3 h3 A3 N3 C3 M3 R3) := ((K3.out (by omega)).grown HWz.out).md md (by omega)
            clear md bb bb0 bb1 bb2 bb3
            go_wp2
            go_roundw
            case rel =>
              exact ⟨1, by omega, by go_num, HE0.out, HE1.out, HE2.out, HE3.out, (fun h => by omega), (fun _ => J1.out), (fun _ => J2.out), (fun _ => J3.out)⟩
            case measure => simp [intOf]
        · have HK1 : Hid (Got wr b1 h1 A1 N1 C1 M1 R1) := K1.out (by omega)
          obtain ⟨y0, y1⟩ := cell2 HB.out
          have yF : wr.cell? ⟨Fb, 1, none⟩ = some (.int .i64 1) := by rw [cell_of_row _ _ _ _ _ _ HFT.out.1]; rfl
          have yT : wr.cell? ⟨Fb + 1, 1, none⟩ = some (.int .i64 2) := by rw [cell_of_row _ _ _ _ _ _ HFT.out.2]; rfl
          have KS : Hid (∀ u, wr.grownBy u none → u.cell? ⟨B, 0, none⟩ = some (.int .u64 E) ∧ u.cell? ⟨B, 1, none⟩ = some (.slice a n c) ∧ u.cell? ⟨Fb, 1, none⟩ = some (.int .i64 1) ∧ u.cell? ⟨Fb + 1, 1, none⟩ = some (.int .i64 2)) := fun u g => ⟨g.cell y0 (by simp), g.cell y1 (by simp), g.cell yF (by simp), g.cell yT (by simp)⟩
          have HDR : Hid (wr.grownBy wr.drew none) := gb_drew (World.grownBy.refl _ _)
          have H23 : Hid (∀ u, Hid (wr.grownBy u none) → Calls Tryz.prog 23 #[.agg #[.int .u64 E, .slice a n c], .int .i64 id, .int .i64 1, .int .i64 2] u fun e w' => ∃ a' c' raw', e = .returned (.tuple #[.agg #[.int .u64 E1, .slice a' N1 c'], .int .i64 q1]) ∧ Hid (MsRd w' a' M1 raw') ∧ Hid (u.grownBy w' none)) := fun u h => (RC1.out u a c raw (HR.out.grown (HG.out.trans h.out))).mono fun e w' ⟨a', c', raw', h1, h2, h3⟩ => ⟨a', c', raw', h1, h2, h3⟩
          go_upto_region 16 with fail
          go_cut [11, 12] from 79 to 113 (fun t11 t12 wx => ∃ D aw cw raww, t11 = .pointer (some ⟨D, 0, none⟩) ∧ t12 = .int .i64 q1 ∧ wr.grownBy wx none ∧ wx.heap[D]? = some (.cells #[.int .u64 E1, .slice aw N1 cw] 25 (0, 0)) ∧ MsRd wx aw M1 raww)
          case first =>
            refine wp_region_held_drew (S := fun u => u.cell? ⟨B, 0, none⟩ = some (.int .u64 E) ∧ u.cell? ⟨B, 1, none⟩ = some (.slice a n c) ∧ u.cell? ⟨Fb, 1, none⟩ = some (.int .i64 1) ∧ u.cell? ⟨Fb + 1, 1, none⟩ = some (.int .i64 2)) (by kernel_rfl) (KS.out _ HDR.out) (fun hHeld => ?_)
            refine wpAnyH_take (i := 0) (v := .agg #[.int .u64 E, .slice a n c]) rfl (by kernel_rfl) (by kernel_rfl) (by kernel_rfl) (fun _ _ _ h => h) (Or.inl ⟨by rfl, fun w hSw => ?_⟩) (by assumption) ?_
            · obtain ⟨t0, t1, t2, t3⟩ := hSw; go_simp
            (try simp only [Act.put]); (try simp only [List.setIfInBounds_toArray]); (try simp only [List.set_cons_succ]); (try simp only [List.set_cons_zero])
            refine wpAnyH_take (i := 1) (v := .int .i64 id) rfl (by kernel_rfl) (by kernel_rfl) (by kernel_rfl) (fun _ _ _ h => h) (Or.inl ⟨by rfl, fun w hSw => ?_⟩) (by assumption) ?_
            · go_simp
            (try simp only [Act.put]); (try simp only [List.setIfInBounds_toArray]); (try simp only [List.set_cons_succ]); (try simp only [List.set_cons_zero])
            refine wpAnyH_take (i := 2) (v := .slice (some ⟨Fb, 0, none⟩) 4 4) rfl (by kernel_rfl) (by kernel_rfl) (by kernel_rfl) (fun _ _ _ h => h) (Or.inl ⟨by rfl, fun w hSw => ?_⟩) (by assumption) ?_
            · go_simp
            (try simp only [Act.put]); (try simp only [List.setIfInBounds_toArray]); (try simp only [List.set_cons_succ]); (try simp only [List.set_cons_zero])
            refine wpAnyH_take (i := 3) (v := .int .i64 1) rfl (by kernel_rfl) (by kernel_rfl) (by kernel_rfl) (fun _ _ _ h => h) (Or.inl ⟨by rfl, fun w hSw => ?_⟩) (by assumption) ?_
            · go_simp
            (try simp only [Act.put]); (try simp only [List.setIfInBounds_toArray]); (try simp only [List.set_cons_succ]); (try simp only [List.set_cons_zero])
            refine wpAnyH_take (i := 4) (v := .pointer (some ⟨Fb, 1, none⟩)) rfl (by kernel_rfl) (by kernel_rfl) (by kernel_rfl) (fun _ _ _ h => h) (Or.inl ⟨by rfl, fun w hSw => ?_⟩) (by assumption) ?_
            · go_simp
            (try simp only [Act.put]); (try simp only [List.setIfInBounds_toArray]); (try simp only [List.set_cons_succ]); (try simp only [List.set_cons_zero])
            refine wpAnyH_take (i := 5) (v := .int .i64 1) rfl (by kernel_rfl) (by kernel_rfl) (by kernel_rfl) (fun _ _ _ h => h) (Or.inl ⟨by rfl, fun w hSw => ?_⟩) (by assumption) ?_
            · obtain ⟨t0, t1, t2, t3⟩ := hSw; go_simp
            (try simp only [Act.put]); (try simp only [List.setIfInBounds_toArray]); (try simp only [List.set_cons_succ]); (try simp only [List.set_cons_zero])
            refine wpAnyH_take (i := 6) (v := .slice (some ⟨Fb + 1, 0, none⟩) 4 4) rfl (by kernel_rfl) (by kernel_rfl) (by kernel_rfl) (fun _ _ _ h => h) (Or.inl ⟨by rfl, fun w hSw => ?_⟩) (by assumption) ?_
            · go_simp
            (try simp only [Act.put]); (try simp only [List.setIfInBounds_toArray]); (try simp only [List.set_cons_succ]); (try simp only [List.set_cons_zero])
            refine wpAnyH_take (i := 7) (v := .int .i64 1) rfl (by kernel_rfl) (by kernel_rfl) (by kernel_rfl) (fun _ _ _ h => h) (Or.inl ⟨by rfl, fun w hSw => ?_⟩) (by assumption) ?_
            · go_simp
            (try simp only [Act.put]); (try simp only [List.setIfInBounds_toArray]); (try simp only [List.set_cons_succ]); (try simp only [List.set_cons_zero])
            refine wpAnyH_take (i := 8) (v := .pointer (some ⟨Fb + 1, 1, none⟩)) rfl (by kernel_rfl) (by kernel_rfl) (by kernel_rfl) (fun _ _ _ h => h) (Or.inl ⟨by rfl, fun w hSw => ?_⟩) (by assumption) ?_
            · go_simp
            (try simp only [Act.put]); (try simp only [List.setIfInBounds_toArray]); (try simp only [List.set_cons_succ]); (try simp only [List.set_cons_zero])
            refine wpAnyH_take (i := 9) (v := .int .i64 2) rfl (by kernel_rfl) (by kernel_rfl) (by kernel_rfl) (fun _ _ _ h => h) (Or.inl ⟨by rfl, fun w hSw => ?_⟩) (by assumption) ?_
            · obtain ⟨t0, t1, t2, t3⟩ := hSw; go_simp
            (try simp only [Act.put]); (try simp only [List.setIfInBounds_toArray]); (try simp only [List.set_cons_succ]); (try simp only [List.set_cons_zero])
            refine wpAnyH_ready (rs := [10, 14]) (by kernel_rfl) (by simp) (AllReadyH.cons (i := 10) rfl (fun K9 hK => ?_) (AllReadyH.cons (i := 14) rfl (fun K9 hK => ?_) AllReadyH.nil))
            · go_simp
              refine (H23.out _ HDR).mono ?_
              rintro e z23 ⟨aw, cw, raww, rfl, mw, g23⟩
              have HZ1 : Hid (wr.grownBy z23 none) := HDR.out.trans g23.out
              refine hK.out _ _ (KS.out _ HZ1.out) (fun hHeld => ?_)
              clear hK K9
              (try simp only [Act.put]); (try simp only [List.setIfInBounds_toArray]); (try simp only [List.set_cons_succ]); (try simp only [List.set_cons_zero])
              refine wpAnyH_take (i := 11) (v := .tuple #[.agg #[.int .u64 E1, .slice aw N1 cw], .int .i64 q1]) rfl (by kernel_rfl) (by kernel_rfl) (by kernel_rfl) (fun _ _ _ h => h) (Or.inl ⟨by rfl, fun w hSw => ?_⟩) (by assumption) ?_
              · go_simp
              (try simp only [Act.put]); (try simp only [List.setIfInBounds_toArray]); (try simp only [List.set_cons_succ]); (try simp only [List.set_cons_zero])
              refine wpAnyH_take (i := 12) (v := .agg #[.int .u64 E1, .slice aw N1 cw]) rfl (by kernel_rfl) (by kernel_rfl) (by kernel_rfl) (fun _ _ _ h => h) (Or.inl ⟨by rfl, fun w hSw => ?_⟩) (by assumption) ?_
              · go_simp
              (try simp only [Act.put]); (try simp only [List.setIfInBounds_toArray]); (try simp only [List.set_cons_succ]); (try simp only [List.set_cons_zero])
              refine wpAnyH_take (i := 13) (v := .int .i64 q1) rfl (by kernel_rfl) (by kernel_rfl) (by kernel_rfl) (fun _ _ _ h => h) (Or.inl ⟨by rfl, fun w hSw => ?_⟩) (by assumption) ?_
              · go_simp
              (try simp only [Act.put]); (try simp only [List.setIfInBounds_toArray]); (try simp only [List.set_cons_succ]); (try simp only [List.set_cons_zero])
              refine wpAnyH_ready (rs := [14]) (by kernel_rfl) (by simp) (AllReadyH.cons (i := 14) rfl (fun K9 hK => ?_) AllReadyH.nil)
              go_simp
              obtain ⟨D, eD⟩ : ∃ D, z23.heap.size = D := ⟨_, rfl⟩
              have ED : Hid (z23.heap.size = D) := eD
              have HZD : Hid ((z23.alloc (.cells #[.int .u64 0, .slice none 0 0] 25)).heap[D]? = some (.cells #[.int .u64 0, .slice none 0 0] 25 (0, 0))) := by show _ = _; rw [← eD]; exact heap_alloc_new z23 _
              have HZG : Hid (wr.grownBy (z23.alloc (.cells #[.int .u64 0, .slice none 0 0] 25)) none) := HZ1.out.trans (World.grownBy_alloc _ _ none)
              have HZM : Hid (MsRd (z23.alloc (.cells #[.int .u64 0, .slice none 0 0] 25)) aw M1 raww) := mw.out.grown (World.grownBy_alloc _ _ none)
              have HDL : Hid (wr.heap.size ≤ D) := by show _ ≤ _; rw [← eD]; exact HZ1.out.size
              clear eD
              refine hK.out _ _ (KS.out _ HZG.out) (fun hHeld => ?_)
              clear hK K9
              (try simp only [Act.put]); (try simp only [List.setIfInBounds_toArray]); (try simp only [List.set_cons_succ]); (try simp only [List.set_cons_zero])
              try rw [ED.out]
              generalize z23.alloc (.cells #[.int .u64 0, .slice none 0 0] 25) = ZA at *
              obtain ⟨c0, c1⟩ := cell2 HZD.out
              have f0 := free_row HZD.out 0
              have f1 := free_row HZD.out 1
              refine wpAnyH_ready (rs := [15]) (by kernel_rfl) (by simp) (AllReadyH.cons (i := 15) rfl (fun K9 hK => ?_) AllReadyH.nil)
              go_simp
              have HXD : Hid (((ZA.setCell ⟨D, 0, none⟩ (.int .u64 E1)).setCell ⟨D, 1, none⟩ (.slice aw N1 cw)).heap[D]? = some (.cells #[.int .u64 E1, .slice aw N1 cw] 25 (0, 0))) := pair_set HZD.out _ _
              have gDD : ZA.grownBy ((ZA.setCell ⟨D, 0, none⟩ (.int .u64 E1)).setCell ⟨D, 1, none⟩ (.slice aw N1 cw)) (some D) := gb_trans (gb_set (g := D) rfl) (gb_set (g := D) rfl) (fun j hj => .inr hj)
              have HXG : Hid (wr.grownBy ((ZA.setCell ⟨D, 0, none⟩ (.int .u64 E1)).setCell ⟨D, 1, none⟩ (.slice aw N1 cw)) none) := gb_trans HZG.out gDD (fun j hj => .inl (by cases hj; exact HDL.out))
              have HXW : Hid (MsRd ((ZA.setCell ⟨D, 0, none⟩ (.int .u64 E1)).setCell ⟨D, 1, none⟩ (.slice aw N1 cw)) aw M1 raww) := msrd_box HZD.out HZM.out gDD
              refine hK.out _ _ (KS.out _ HXG.out) (fun hHeld => ?_)
              clear hK K9 c0 c1 f0 f1 gDD
              (try simp only [Act.put]); (try simp only [List.setIfInBounds_toArray]); (try simp only [List.set_cons_succ]); (try simp only [List.set_cons_zero])
              refine wpAnyH_take (i := 16) (v := .int .i64 q1) rfl (by kernel_rfl) (by kernel_rfl) (by kernel_rfl) (fun _ _ _ h => h) (Or.inl ⟨by rfl, fun w hSw => ?_⟩) (by assumption) ?_
              · go_simp
              (try simp only [Act.put]); (try simp only [List.setIfInBounds_toArray]); (try simp only [List.set_cons_succ]); (try simp only [List.set_cons_zero])
              refine wpAnyH_done (by kernel_rfl) ?_ _
              clear hHeld
              go_wp2
              try (rename_i hd9; cases hd9)
              go_meet
              exact ⟨D, aw, cw, raww, rfl, rfl, HXG.out, HXD.out, HXW.out⟩
            · go_simp
              obtain ⟨D, eD⟩ : ∃ D, wr.heap.size = D := ⟨_, rfl⟩
              have ED : Hid (wr.heap.size = D) := eD
              have HZ0 : Hid ((wr.drew.alloc (.cells #[.int .u64 0, .slice none 0 0] 25)).heap[D]? = some (.cells #[.int .u64 0, .slice none 0 0] 25 (0, 0))) := by show _ = _; rw [← eD]; exact heap_alloc_new wr.drew _
              have HZ1 : Hid (wr.grownBy (wr.drew.alloc (.cells #[.int .u64 0, .slice none 0 0] 25)) none) := HDR.out.trans (World.grownBy_alloc _ _ none)
              have HDL : Hid (wr.heap.size ≤ D) := by show _ ≤ _; omega
              clear eD
              refine hK.out _ _ (KS.out _ HZ1.out) (fun hHeld => ?_)
              clear hK K9
              (try simp only [Act.put]); (try simp only [List.setIfInBounds_toArray]); (try simp only [List.set_cons_succ]); (try simp only [List.set_cons_zero])
              try rw [ED.out]
              refine wpAnyH_ready (rs := [10]) (by kernel_rfl) (by simp) (AllReadyH.cons (i := 10) rfl (fun K9 hK => ?_) AllReadyH.nil)
              go_simp
              refine (H23.out _ HZ1).mono ?_
              rintro e ZA ⟨aw, cw, raww, rfl, mw, g23⟩
              have HZG : Hid (wr.grownBy ZA none) := HZ1.out.trans g23.out
              have HZD : Hid (ZA.heap[D]? = some (.cells #[.int .u64 0, .slice none 0 0] 25 (0, 0))) := by show _ = _; rw [g23.out.block D (Array.getElem?_eq_some_iff.1 HZ0.out).1 (by simp)]; exact HZ0.out
              have HZM : Hid (MsRd ZA aw M1 raww) := mw.out
              refine hK.out _ _ (KS.out _ HZG.out) (fun hHeld => ?_)
              clear hK K9
              (try simp only [Act.put]); (try simp only [List.setIfInBounds_toArray]); (try simp only [List.set_cons_succ]); (try simp only [List.set_cons_zero])
              refine wpAnyH_take (i := 11) (v := .tuple #[.agg #[.int .u64 E1, .slice aw N1 cw], .int .i64 q1]) rfl (by kernel_rfl) (by kernel_rfl) (by kernel_rfl) (fun _ _ _ h => h) (Or.inl ⟨by rfl, fun w hSw => ?_⟩) (by assumption) ?_
              · go_simp
              (try simp only [Act.put]); (try simp only [List.setIfInBounds_toArray]); (try simp only [List.set_cons_succ]); (try simp only [List.set_cons_zero])
              refine wpAnyH_take (i := 12) (v := .agg #[.int .u64 E1, .slice aw N1 cw]) rfl (by kernel_rfl) (by kernel_rfl) (by kernel_rfl) (fun _ _ _ h => h) (Or.inl ⟨by rfl, fun w hSw => ?_⟩) (by assumption) ?_
              · go_simp
              (try simp only [Act.put]); (try simp only [List.setIfInBounds_toArray]); (try simp only [List.set_cons_succ]); (try simp only [List.set_cons_zero])
              refine wpAnyH_take (i := 13) (v := .int .i64 q1) rfl (by kernel_rfl) (by kernel_rfl) (by kernel_rfl) (fun _ _ _ h => h) (Or.inl ⟨by rfl, fun w hSw => ?_⟩) (by assumption) ?_
              · go_simp
              (try simp only [Act.put]); (try simp only [List.setIfInBounds_toArray]); (try simp only [List.set_cons_succ]); (try simp only [List.set_cons_zero])
              obtain ⟨c0, c1⟩ := cell2 HZD.out
              have f0 := free_row HZD.out 0
              have f1 := free_row HZD.out 1
              refine wpAnyH_ready (rs := [15]) (by kernel_rfl) (by simp) (AllReadyH.cons (i := 15) rfl (fun K9 hK => ?_) AllReadyH.nil)
              go_simp
              have HXD : Hid (((ZA.setCell ⟨D, 0, none⟩ (.int .u64 E1)).setCell ⟨D, 1, none⟩ (.slice aw N1 cw)).heap[D]? = some (.cells #[.int .u64 E1, .slice aw N1 cw] 25 (0, 0))) := pair_set HZD.out _ _
              have gDD : ZA.grownBy ((ZA.setCell ⟨D, 0, none⟩ (.int .u64 E1)).setCell ⟨D, 1, none⟩ (.slice aw N1 cw)) (some D) := gb_trans (gb_set (g := D) rfl) (gb_set (g := D) rfl) (fun j hj => .inr hj)
              have HXG : Hid (wr.grownBy ((ZA.setCell ⟨D, 0, none⟩ (.int .u64 E1)).setCell ⟨D, 1, none⟩ (.slice aw N1 cw)) none) := gb_trans HZG.out gDD (fun j hj => .inl (by cases hj; exact HDL.out))
              have HXW : Hid (MsRd ((ZA.setCell ⟨D, 0, none⟩ (.int .u64 E1)).setCell ⟨D, 1, none⟩ (.slice aw N1 cw)) aw M1 raww) := msrd_box HZD.out HZM.out gDD
              refine hK.out _ _ (KS.out _ HXG.out) (fun hHeld => ?_)
              clear hK K9 c0 c1 f0 f1 gDD
              (try simp only [Act.put]); (try simp only [List.setIfInBounds_toArray]); (try simp only [List.set_cons_succ]); (try simp only [List.set_cons_zero])
              refine wpAnyH_take (i := 16) (v := .int .i64 q1) rfl (by kernel_rfl) (by kernel_rfl) (by kernel_rfl) (fun _ _ _ h => h) (Or.inl ⟨by rfl, fun w hSw => ?_⟩) (by assumption) ?_
              · go_simp
              (try simp only [Act.put]); (try simp only [List.setIfInBounds_toArray]); (try simp only [List.set_cons_succ]); (try simp only [List.set_cons_zero])
              refine wpAnyH_done (by kernel_rfl) ?_ _
              clear hHeld
              go_wp2
              try (rename_i hd9; cases hd9)
              go_meet
              exact ⟨D, aw, cw, raww, rfl, rfl, HXG.out, HXD.out, HXW.out⟩
          case rest =>
            obtain ⟨D, aw, cw, raww, rfl, rfl, hgx, hD, hmw⟩ := hcut
            clear y0 y1 yF yT KS HDR H23
            have HGx : Hid (w.grownBy wc none) := HG.out.trans hgx
            have HAx : Hid (GA wc (Bx + 1) (Bx + 2) #[.int .u64 E0, .slice A0 N0 C0, .int .u64 E1, .slice A1 N1 C1, .int .u64 E2, .slice A2 N2 C2, .int .u64 E3, .slice A3 N3 C3] #[.int .i64 q0, .int .i64 q1, .int .i64 q2, .int .i64 q3]) := HA.out.grown hgx
            have HKx : Hid (Got wc b1 h1 A1 N1 C1 M1 R1) := HK1.out.grown hgx
            have HGW : Hid (wr.grownBy wc none) := hgx
            have HMW : Hid (MsRd wc aw M1 raww) := hmw
            obtain ⟨d0, d1⟩ := cell2 hD
            have e0 : wc.cell? ⟨Bx + 2, 1, none⟩ = some (.int .i64 q1) := by rw [cell_of_row _ _ _ _ _ _ HAx.out.bad]; rfl
            have e1 : wc.cell? ⟨Bx + 1, 2, none⟩ = some (.int .u64 E1) := by rw [cell_of_row _ _ _ _ _ _ HAx.out.got]; rfl
            have e2 : wc.cell? ⟨Bx + 1, 3, none⟩ = some (.slice A1 N1 C1) := by rw [cell_of_row _ _ _ _ _ _ HAx.out.got]; rfl
            have HDR : Hid (wc.grownBy wc.drew none) := gb_drew (World.grownBy.refl _ _)
            have hqq : (q1 != q1) = false := by simp
            have H14 : Hid (∀ u, Hid (wc.grownBy u none) → Calls Tryz.prog 14 #[.agg #[.int .u64 E1, .slice A1 N1 C1], .agg #[.int .u64 E1, .slice aw N1 cw]] u fun e w' => e = .returned (.bool true) ∧ Hid (wc.grownBy w' none) ∧ w'.cell? ⟨Bx + 2, 1, none⟩ = some (.int .i64 q1) ∧ w'.cell? ⟨Bx + 1, 2, none⟩ = some (.int .u64 E1) ∧ w'.cell? ⟨Bx + 1, 3, none⟩ = some (.slice A1 N1 C1) ∧ w'.cell? ⟨D, 0, none⟩ = some (.int .u64 E1) ∧ w'.cell? ⟨D, 1, none⟩ = some (.slice aw N1 cw)) := fun u h => by
              refine (rsame E1 E1 A1 aw R1 raww M1 M1 N1 N1 C1 cw u (HKx.out.1.rd.1.grown h.out) (HMW.out.grown h.out) EL1.out EL1.out (by have := SML1.out.1; have := EL1.out; omega) (fun s hs => by have := SML1.out.2 s hs; omega)).mono ?_
              rintro e w' ⟨rfl, h2⟩
              have g := h.out.trans h2
              exact ⟨by simp, g, g.cell e0 (by simp), g.cell e1 (by simp), g.cell e2 (by simp), g.cell d0 (by simp), g.cell d1 (by simp)⟩
            clear hgx hD hmw
            go_upto_region 17 with fail
            go_region_held3 (fun u => Hid (wc.grownBy u none) ∧ u.cell? ⟨Bx + 2, 1, none⟩ = some (.int .i64 q1) ∧ u.cell? ⟨Bx + 1, 2, none⟩ = some (.int .u64 E1) ∧ u.cell? ⟨Bx + 1, 3, none⟩ = some (.slice A1 N1 C1) ∧ u.cell? ⟨D, 0, none⟩ = some (.int .u64 E1) ∧ u.cell? ⟨D, 1, none⟩ = some (.slice aw N1 cw)) (first | exact ⟨HDR, e0, e1, e2, d0, d1⟩ | (refine ⟨?_, ?_, ?_, ?_, ?_, ?_⟩ <;> assumption)) (first | (go_at_call 14; refine (H14.out _ ?h1).mono ?_; (case h1 => first | exact HDR | assumption); rintro e z14 ⟨rfl, s14, i14, j14, k14, l14, m14⟩) | fail)
            have HA2 : Hid (GA z14 (Bx + 1) (Bx + 2) #[.int .u64 E0, .slice A0 N0 C0, .int .u64 E1, .slice A1 N1 C1, .int .u64 E2, .slice A2 N2 C2, .int .u64 E3, .slice A3 N3 C3] #[.int .i64 q0, .int .i64 q1, .int .i64 q2, .int .i64 q3]) := HAx.out.grown s14.out
            have C7 := spoil_ring E1 A1 N1 C1 b1 h1 R1 z14 (HKx.out.grown s14.out).2 (by have := SML1.out.1; have := EL1.out; omega) (by have h9 := (HKx.out.grown s14.out); have := HFH.out; have := HSW.out; have := HBH0.out; have := HBH1.out; have := HBH2.out; have := HBH3.out; have := HGW.out.size; have := s14.out.size; omega)
            have HBz : Hid (z14.heap[B]? = some (.cells #[.int .u64 E, .slice a n c] 25 (0, 0))) := by show _ = _; rw [(HGW.out.trans s14.out).block B (Array.getElem?_eq_some_iff.1 HB.out).1 (by simp)]; exact HB.out
            have HFz : Hid (z14.heap[Fb]? = some (.cells #[.int .i64 0, .int .i64 1, .int .i64 2, .int .i64 3] 3 (0, 0)) ∧ z14.heap[Fb + 1]? = some (.cells #[.int .i64 1, .int .i64 2, .int .i64 3, .int .i64 0] 3 (0, 0))) := ⟨by rw [(HGW.out.trans s14.out).block Fb (Array.getElem?_eq_some_iff.1 HFT.out.1).1 (by simp)]; exact HFT.out.1, by rw [(HGW.out.trans s14.out).block (Fb + 1) (Array.getElem?_eq_some_iff.1 HFT.out.2).1 (by simp)]; exact HFT.out.2⟩
            have HGz : Hid (w.grownBy z14 none) := HGx.out.trans s14.out
            have HWz : Hid (wr.grownBy z14 none) := HGW.out.trans s14.out
            clear e0 e1 e2 d0 d1
            go_wp2_with fail
            refine C7.mono ?_
            clear C7
            rintro e z22 ⟨rfl, md⟩
            have bb := HBB.out
            have bb0 := HBH0.out
            have bb1 := HBH1.out
            have bb2 := HBH2.out
            have bb3 := HBH3.out
            have HE0 : Hid (w.grownBy z22 none) := md_gb HGz.out md (by have := EB.out; omega)
            have HE1 : Hid (z22.heap[B]? = some (.cells #[.int .u64 E, .slice a n c] 25 (0, 0))) := by show _ = _; rw [md.block B (Array.getElem?_eq_some_iff.1 HBz.out).1 (.inl (by omega))]; exact HBz.out
            have HE2 : Hid (GA z22 (Bx + 1) (Bx + 2) #[.int .u64 E0, .slice A0 N0 C0, .int .u64 E1, .slice A1 N1 C1, .int .u64 E2, .slice A2 N2 C2, .int .u64 E3, .slice A3 N3 C3] #[.int .i64 q0, .int .i64 q1, .int .i64 q2, .int .i64 q3]) := HA2.out.md md ⟨.inl (by omega), .inl (by omega)⟩
            have HE3 : Hid (z22.heap[Fb]? = some (.cells #[.int .i64 0, .int .i64 1, .int .i64 2, .int .i64 3] 3 (0, 0)) ∧ z22.heap[Fb + 1]? = some (.cells #[.int .i64 1, .int .i64 2, .int .i64 3, .int .i64 0] 3 (0, 0))) := ⟨by rw [md.block Fb (Array.getElem?_eq_some_iff.1 HFz.out.1).1 (.inr (by have := HFH.out; omega))]; exact HFz.out.1, by rw [md.block (Fb + 1) (Array.getElem?_eq_some_iff.1 HFz.out.2).1 (.inr (by have := HFH.out; omega))]; exact HFz.out.2⟩
            have J2 : Hid (Got z22 b2 h2 A2 N2 C2 M2 R2) := ((K2.out (by omega)).grown HWz.out).md md (by omega)
            have J3 : Hid (Got z22 b3 h3 A3 N3 C3 M3 R3) := ((K3.out (by omega)).grown HWz.out).md md (by omega)
            clear md bb bb0 bb1 bb2 bb3
            go_wp2
            go_roundw
            case rel =>
              exact ⟨2, by omega, by go_num, HE0.out, HE1.out, HE2.out, HE3.out, (fun h => by omega), (fun h => by omega), (fun _ => J2.out), (fun _ => J3.out)⟩
            case measure => simp [intOf]
        · have HK2 : Hid (Got wr b2 h2 A2 N2 C2 M2 R2) := K2.out (by omega)
          obtain ⟨y0, y1⟩ := cell2 HB.out
          have yF : wr.cell? ⟨Fb, 2, none⟩ = some (.int .i64 2) := by rw [cell_of_row _ _ _ _ _ _ HFT.out.1]; rfl
          have yT : wr.cell? ⟨Fb + 1, 2, none⟩ = some (.int .i64 3) := by rw [cell_of_row _ _ _ _ _ _ HFT.out.2]; rfl
          have KS : Hid (∀ u, wr.grownBy u none → u.cell? ⟨B, 0, none⟩ = some (.int .u64 E) ∧ u.cell? ⟨B, 1, none⟩ = some (.slice a n c) ∧ u.cell? ⟨Fb, 2, none⟩ = some (.int .i64 2) ∧ u.cell? ⟨Fb + 1, 2, none⟩ = some (.int .i64 3)) := fun u g => ⟨g.cell y0 (by simp), g.cell y1 (by simp), g.cell yF (by simp), g.cell yT (by simp)⟩
          have HDR : Hid (wr.grownBy wr.drew none) := gb_drew (World.grownBy.refl _ _)
          have H23 : Hid (∀ u, Hid (wr.grownBy u none) → Calls Tryz.prog 23 #[.agg #[.int .u64 E, .slice a n c], .int .i64 id, .int .i64 2, .int .i64 3] u fun e w' => ∃ a' c' raw', e = .returned (.tuple #[.agg #[.int .u64 E2, .slice a' N2 c'], .int .i64 q2]) ∧ Hid (MsRd w' a' M2 raw') ∧ Hid (u.grownBy w' none)) := fun u h => (RC2.out u a c raw (HR.out.grown (HG.out.trans h.out))).mono fun e w' ⟨a', c', raw', h1, h2, h3⟩ => ⟨a', c', raw', h1, h2, h3⟩
          go_upto_region 16 with fail
          go_cut [11, 12] from 79 to 113 (fun t11 t12 wx => ∃ D aw cw raww, t11 = .pointer (some ⟨D, 0, none⟩) ∧ t12 = .int .i64 q2 ∧ wr.grownBy wx none ∧ wx.heap[D]? = some (.cells #[.int .u64 E2, .slice aw N2 cw] 25 (0, 0)) ∧ MsRd wx aw M2 raww)
          case first =>
            refine wp_region_held_drew (S := fun u => u.cell? ⟨B, 0, none⟩ = some (.int .u64 E) ∧ u.cell? ⟨B, 1, none⟩ = some (.slice a n c) ∧ u.cell? ⟨Fb, 2, none⟩ = some (.int .i64 2) ∧ u.cell? ⟨Fb + 1, 2, none⟩ = some (.int .i64 3)) (by kernel_rfl) (KS.out _ HDR.out) (fun hHeld => ?_)
            refine wpAnyH_take (i := 0) (v := .agg #[.int .u64 E, .slice a n c]) rfl (by kernel_rfl) (by kernel_rfl) (by kernel_rfl) (fun _ _ _ h => h) (Or.inl ⟨by rfl, fun w hSw => ?_⟩) (by assumption) ?_
            · obtain ⟨t0, t1, t2, t3⟩ := hSw; go_simp
            (try simp only [Act.put]); (try simp only [List.setIfInBounds_toArray]); (try simp only [List.set_cons_succ]); (try simp only [List.set_cons_zero])
            refine wpAnyH_take (i := 1) (v := .int .i64 id) rfl (by kernel_rfl) (by kernel_rfl) (by kernel_rfl) (fun _ _ _ h => h) (Or.inl ⟨by rfl, fun w hSw => ?_⟩) (by assumption) ?_
            · go_simp
            (try simp only [Act.put]); (try simp only [List.setIfInBounds_toArray]); (try simp only [List.set_cons_succ]); (try simp only [List.set_cons_zero])
            refine wpAnyH_take (i := 2) (v := .slice (some ⟨Fb, 0, none⟩) 4 4) rfl (by kernel_rfl) (by kernel_rfl) (by kernel_rfl) (fun _ _ _ h => h) (Or.inl ⟨by rfl, fun w hSw => ?_⟩) (by assumption) ?_
            · go_simp
            (try simp only [Act.put]); (try simp only [List.setIfInBounds_toArray]); (try simp only [List.set_cons_succ]); (try simp only [List.set_cons_zero])
            refine wpAnyH_take (i := 3) (v := .int .i64 2) rfl (by kernel_rfl) (by kernel_rfl) (by kernel_rfl) (fun _ _ _ h => h) (Or.inl ⟨by rfl, fun w hSw => ?_⟩) (by assumption) ?_
            · go_simp
            (try simp only [Act.put]); (try simp only [List.setIfInBounds_toArray]); (try simp only [List.set_cons_succ]); (try simp only [List.set_cons_zero])
            refine wpAnyH_take (i := 4) (v := .pointer (some ⟨Fb, 2, none⟩)) rfl (by kernel_rfl) (by kernel_rfl) (by kernel_rfl) (fun _ _ _ h => h) (Or.inl ⟨by rfl, fun w hSw => ?_⟩) (by assumption) ?_
            · go_simp
            (try simp only [Act.put]); (try simp only [List.setIfInBounds_toArray]); (try simp only [List.set_cons_succ]); (try simp only [List.set_cons_zero])
            refine wpAnyH_take (i := 5) (v := .int .i64 2) rfl (by kernel_rfl) (by kernel_rfl) (by kernel_rfl) (fun _ _ _ h => h) (Or.inl ⟨by rfl, fun w hSw => ?_⟩) (by assumption) ?_
            · obtain ⟨t0, t1, t2, t3⟩ := hSw; go_simp
            (try simp only [Act.put]); (try simp only [List.setIfInBounds_toArray]); (try simp only [List.set_cons_succ]); (try simp only [List.set_cons_zero])
            refine wpAnyH_take (i := 6) (v := .slice (some ⟨Fb + 1, 0, none⟩) 4 4) rfl (by kernel_rfl) (by kernel_rfl) (by kernel_rfl) (fun _ _ _ h => h) (Or.inl ⟨by rfl, fun w hSw => ?_⟩) (by assumption) ?_
            · go_simp
            (try simp only [Act.put]); (try simp only [List.setIfInBounds_toArray]); (try simp only [List.set_cons_succ]); (try simp only [List.set_cons_zero])
            refine wpAnyH_take (i := 7) (v := .int .i64 2) rfl (by kernel_rfl) (by kernel_rfl) (by kernel_rfl) (fun _ _ _ h => h) (Or.inl ⟨by rfl, fun w hSw => ?_⟩) (by assumption) ?_
            · go_simp
            (try simp only [Act.put]); (try simp only [List.setIfInBounds_toArray]); (try simp only [List.set_cons_succ]); (try simp only [List.set_cons_zero])
            refine wpAnyH_take (i := 8) (v := .pointer (some ⟨Fb + 1, 2, none⟩)) rfl (by kernel_rfl) (by kernel_rfl) (by kernel_rfl) (fun _ _ _ h => h) (Or.inl ⟨by rfl, fun w hSw => ?_⟩) (by assumption) ?_
            · go_simp
            (try simp only [Act.put]); (try simp only [List.setIfInBounds_toArray]); (try simp only [List.set_cons_succ]); (try simp only [List.set_cons_zero])
            refine wpAnyH_take (i := 9) (v := .int .i64 3) rfl (by kernel_rfl) (by kernel_rfl) (by kernel_rfl) (fun _ _ _ h => h) (Or.inl ⟨by rfl, fun w hSw => ?_⟩) (by assumption) ?_
            · obtain ⟨t0, t1, t2, t3⟩ := hSw; go_simp
            (try simp only [Act.put]); (try simp only [List.setIfInBounds_toArray]); (try simp only [List.set_cons_succ]); (try simp only [List.set_cons_zero])
            refine wpAnyH_ready (rs := [10, 14]) (by kernel_rfl) (by simp) (AllReadyH.cons (i := 10) rfl (fun K9 hK => ?_) (AllReadyH.cons (i := 14) rfl (fun K9 hK => ?_) AllReadyH.nil))
            · go_simp
              refine (H23.out _ HDR).mono ?_
              rintro e z23 ⟨aw, cw, raww, rfl, mw, g23⟩
              have HZ1 : Hid (wr.grownBy z23 none) := HDR.out.trans g23.out
              refine hK.out _ _ (KS.out _ HZ1.out) (fun hHeld => ?_)
              clear hK K9
              (try simp only [Act.put]); (try simp only [List.setIfInBounds_toArray]); (try simp only [List.set_cons_succ]); (try simp only [List.set_cons_zero])
              refine wpAnyH_take (i := 11) (v := .tuple #[.agg #[.int .u64 E2, .slice aw N2 cw], .int .i64 q2]) rfl (by kernel_rfl) (by kernel_rfl) (by kernel_rfl) (fun _ _ _ h => h) (Or.inl ⟨by rfl, fun w hSw => ?_⟩) (by assumption) ?_
              · go_simp
              (try simp only [Act.put]); (try simp only [List.setIfInBounds_toArray]); (try simp only [List.set_cons_succ]); (try simp only [List.set_cons_zero])
              refine wpAnyH_take (i := 12) (v := .agg #[.int .u64 E2, .slice aw N2 cw]) rfl (by kernel_rfl) (by kernel_rfl) (by kernel_rfl) (fun _ _ _ h => h) (Or.inl ⟨by rfl, fun w hSw => ?_⟩) (by assumption) ?_
              · go_simp
              (try simp only [Act.put]); (try simp only [List.setIfInBounds_toArray]); (try simp only [List.set_cons_succ]); (try simp only [List.set_cons_zero])
              refine wpAnyH_take (i := 13) (v := .int .i64 q2) rfl (by kernel_rfl) (by kernel_rfl) (by kernel_rfl) (fun _ _ _ h => h) (Or.inl ⟨by rfl, fun w hSw => ?_⟩) (by assumption) ?_
              · go_simp
              (try simp only [Act.put]); (try simp only [List.setIfInBounds_toArray]); (try simp only [List.set_cons_succ]); (try simp only [List.set_cons_zero])
              refine wpAnyH_ready (rs := [14]) (by kernel_rfl) (by simp) (AllReadyH.cons (i := 14) rfl (fun K9 hK => ?_) AllReadyH.nil)
              go_simp
              obtain ⟨D, eD⟩ : ∃ D, z23.heap.size = D := ⟨_, rfl⟩
              have ED : Hid (z23.heap.size = D) := eD
              have HZD : Hid ((z23.alloc (.cells #[.int .u64 0, .slice none 0 0] 25)).heap[D]? = some (.cells #[.int .u64 0, .slice none 0 0] 25 (0, 0))) := by show _ = _; rw [← eD]; exact heap_alloc_new z23 _
              have HZG : Hid (wr.grownBy (z23.alloc (.cells #[.int .u64 0, .slice none 0 0] 25)) none) := HZ1.out.trans (World.grownBy_alloc _ _ none)
              have HZM : Hid (MsRd (z23.alloc (.cells #[.int .u64 0, .slice none 0 0] 25)) aw M2 raww) := mw.out.grown (World.grownBy_alloc _ _ none)
              have HDL : Hid (wr.heap.size ≤ D) := by show _ ≤ _; rw [← eD]; exact HZ1.out.size
              clear eD
              refine hK.out _ _ (KS.out _ HZG.out) (fun hHeld => ?_)
              clear hK K9
              (try simp only [Act.put]); (try simp only [List.setIfInBounds_toArray]); (try simp only [List.set_cons_succ]); (try simp only [List.set_cons_zero])
              try rw [ED.out]
              generalize z23.alloc (.cells #[.int .u64 0, .slice none 0 0] 25) = ZA at *
              obtain ⟨c0, c1⟩ := cell2 HZD.out
              have f0 := free_row HZD.out 0
              have f1 := free_row HZD.out 1
              refine wpAnyH_ready (rs := [15]) (by kernel_rfl) (by simp) (AllReadyH.cons (i := 15) rfl (fun K9 hK => ?_) AllReadyH.nil)
              go_simp
              have HXD : Hid (((ZA.setCell ⟨D, 0, none⟩ (.int .u64 E2)).setCell ⟨D, 1, none⟩ (.slice aw N2 cw)).heap[D]? = some (.cells #[.int .u64 E2, .slice aw N2 cw] 25 (0, 0))) := pair_set HZD.out _ _
              have gDD : ZA.grownBy ((ZA.setCell ⟨D, 0, none⟩ (.int .u64 E2)).setCell ⟨D, 1, none⟩ (.slice aw N2 cw)) (some D) := gb_trans (gb_set (g := D) rfl) (gb_set (g := D) rfl) (fun j hj => .inr hj)
              have HXG : Hid (wr.grownBy ((ZA.setCell ⟨D, 0, none⟩ (.int .u64 E2)).setCell ⟨D, 1, none⟩ (.slice aw N2 cw)) none) := gb_trans HZG.out gDD (fun j hj => .inl (by cases hj; exact HDL.out))
              have HXW : Hid (MsRd ((ZA.setCell ⟨D, 0, none⟩ (.int .u64 E2)).setCell ⟨D, 1, none⟩ (.slice aw N2 cw)) aw M2 raww) := msrd_box HZD.out HZM.out gDD
              refine hK.out _ _ (KS.out _ HXG.out) (fun hHeld => ?_)
              clear hK K9 c0 c1 f0 f1 gDD
              (try simp only [Act.put]); (try simp only [List.setIfInBounds_toArray]); (try simp only [List.set_cons_succ]); (try simp only [List.set_cons_zero])
              refine wpAnyH_take (i := 16) (v := .int .i64 q2) rfl (by kernel_rfl) (by kernel_rfl) (by kernel_rfl) (fun _ _ _ h => h) (Or.inl ⟨by rfl, fun w hSw => ?_⟩) (by assumption) ?_
              · go_simp
              (try simp only [Act.put]); (try simp only [List.setIfInBounds_toArray]); (try simp only [List.set_cons_succ]); (try simp only [List.set_cons_zero])
              refine wpAnyH_done (by kernel_rfl) ?_ _
              clear hHeld
              go_wp2
              try (rename_i hd9; cases hd9)
              go_meet
              exact ⟨D, aw, cw, raww, rfl, rfl, HXG.out, HXD.out, HXW.out⟩
            · go_simp
              obtain ⟨D, eD⟩ : ∃ D, wr.heap.size = D := ⟨_, rfl⟩
              have ED : Hid (wr.heap.size = D) := eD
              have HZ0 : Hid ((wr.drew.alloc (.cells #[.int .u64 0, .slice none 0 0] 25)).heap[D]? = some (.cells #[.int .u64 0, .slice none 0 0] 25 (0, 0))) := by show _ = _; rw [← eD]; exact heap_alloc_new wr.drew _
              have HZ1 : Hid (wr.grownBy (wr.drew.alloc (.cells #[.int .u64 0, .slice none 0 0] 25)) none) := HDR.out.trans (World.grownBy_alloc _ _ none)
              have HDL : Hid (wr.heap.size ≤ D) := by show _ ≤ _; omega
              clear eD
              refine hK.out _ _ (KS.out _ HZ1.out) (fun hHeld => ?_)
              clear hK K9
              (try simp only [Act.put]); (try simp only [List.setIfInBounds_toArray]); (try simp only [List.set_cons_succ]); (try simp only [List.set_cons_zero])
              try rw [ED.out]
              refine wpAnyH_ready (rs := [10]) (by kernel_rfl) (by simp) (AllReadyH.cons (i := 10) rfl (fun K9 hK => ?_) AllReadyH.nil)
              go_simp
              refine (H23.out _ HZ1).mono ?_
              rintro e ZA ⟨aw, cw, raww, rfl, mw, g23⟩
              have HZG : Hid (wr.grownBy ZA none) := HZ1.out.trans g23.out
              have HZD : Hid (ZA.heap[D]? = some (.cells #[.int .u64 0, .slice none 0 0] 25 (0, 0))) := by show _ = _; rw [g23.out.block D (Array.getElem?_eq_some_iff.1 HZ0.out).1 (by simp)]; exact HZ0.out
              have HZM : Hid (MsRd ZA aw M2 raww) := mw.out
              refine hK.out _ _ (KS.out _ HZG.out) (fun hHeld => ?_)
              clear hK K9
              (try simp only [Act.put]); (try simp only [List.setIfInBounds_toArray]); (try simp only [List.set_cons_succ]); (try simp only [List.set_cons_zero])
              refine wpAnyH_take (i := 11) (v := .tuple #[.agg #[.int .u64 E2, .slice aw N2 cw], .int .i64 q2]) rfl (by kernel_rfl) (by kernel_rfl) (by kernel_rfl) (fun _ _ _ h => h) (Or.inl ⟨by rfl, fun w hSw => ?_⟩) (by assumption) ?_
              · go_simp
              (try simp only [Act.put]); (try simp only [List.setIfInBounds_toArray]); (try simp only [List.set_cons_succ]); (try simp only [List.set_cons_zero])
              refine wpAnyH_take (i := 12) (v := .agg #[.int .u64 E2, .slice aw N2 cw]) rfl (by kernel_rfl) (by kernel_rfl) (by kernel_rfl) (fun _ _ _ h => h) (Or.inl ⟨by rfl, fun w hSw => ?_⟩) (by assumption) ?_
              · go_simp
              (try simp only [Act.put]); (try simp only [List.setIfInBounds_toArray]); (try simp only [List.set_cons_succ]); (try simp only [List.set_cons_zero])
              refine wpAnyH_take (i := 13) (v := .int .i64 q2) rfl (by kernel_rfl) (by kernel_rfl) (by kernel_rfl) (fun _ _ _ h => h) (Or.inl ⟨by rfl, fun w hSw => ?_⟩) (by assumption) ?_
              · go_simp
              (try simp only [Act.put]); (try simp only [List.setIfInBounds_toArray]); (try simp only [List.set_cons_succ]); (try simp only [List.set_cons_zero])
              obtain ⟨c0, c1⟩ := cell2 HZD.out
              have f0 := free_row HZD.out 0
              have f1 := free_row HZD.out 1
              refine wpAnyH_ready (rs := [15]) (by kernel_rfl) (by simp) (AllReadyH.cons (i := 15) rfl (fun K9 hK => ?_) AllReadyH.nil)
              go_simp
              have HXD : Hid (((ZA.setCell ⟨D, 0, none⟩ (.int .u64 E2)).setCell ⟨D, 1, none⟩ (.slice aw N2 cw)).heap[D]? = some (.cells #[.int .u64 E2, .slice aw N2 cw] 25 (0, 0))) := pair_set HZD.out _ _
              have gDD : ZA.grownBy ((ZA.setCell ⟨D, 0, none⟩ (.int .u64 E2)).setCell ⟨D, 1, none⟩ (.slice aw N2 cw)) (some D) := gb_trans (gb_set (g := D) rfl) (gb_set (g := D) rfl) (fun j hj => .inr hj)
              have HXG : Hid (wr.grownBy ((ZA.setCell ⟨D, 0, none⟩ (.int .u64 E2)).setCell ⟨D, 1, none⟩ (.slice aw N2 cw)) none) := gb_trans HZG.out gDD (fun j hj => .inl (by cases hj; exact HDL.out))
              have HXW : Hid (MsRd ((ZA.setCell ⟨D, 0, none⟩ (.int .u64 E2)).setCell ⟨D, 1, none⟩ (.slice aw N2 cw)) aw M2 raww) := msrd_box HZD.out HZM.out gDD
              refine hK.out _ _ (KS.out _ HXG.out) (fun hHeld => ?_)
              clear hK K9 c0 c1 f0 f1 gDD
              (try simp only [Act.put]); (try simp only [List.setIfInBounds_toArray]); (try simp only [List.set_cons_succ]); (try simp only [List.set_cons_zero])
              refine wpAnyH_take (i := 16) (v := .int .i64 q2) rfl (by kernel_rfl) (by kernel_rfl) (by kernel_rfl) (fun _ _ _ h => h) (Or.inl ⟨by rfl, fun w hSw => ?_⟩) (by assumption) ?_
              · go_simp
              (try simp only [Act.put]); (try simp only [List.setIfInBounds_toArray]); (try simp only [List.set_cons_succ]); (try simp only [List.set_cons_zero])
              refine wpAnyH_done (by kernel_rfl) ?_ _
              clear hHeld
              go_wp2
              try (rename_i hd9; cases hd9)
              go_meet
              exact ⟨D, aw, cw, raww, rfl, rfl, HXG.out, HXD.out, HXW.out⟩
          case rest =>
            obtain ⟨D, aw, cw, raww, rfl, rfl, hgx, hD, hmw⟩ := hcut
            clear y0 y1 yF yT KS HDR H23
            have HGx : Hid (w.grownBy wc none) := HG.out.trans hgx
            have HAx : Hid (GA wc (Bx + 1) (Bx + 2) #[.int .u64 E0, .slice A0 N0 C0, .int .u64 E1, .slice A1 N1 C1, .int .u64 E2, .slice A2 N2 C2, .int .u64 E3, .slice A3 N3 C3] #[.int .i64 q0, .int .i64 q1, .int .i64 q2, .int .i64 q3]) := HA.out.grown hgx
            have HKx : Hid (Got wc b2 h2 A2 N2 C2 M2 R2) := HK2.out.grown hgx
            have HGW : Hid (wr.grownBy wc none) := hgx
            have HMW : Hid (MsRd wc aw M2 raww) := hmw
            obtain ⟨d0, d1⟩ := cell2 hD
            have e0 : wc.cell? ⟨Bx + 2, 2, none⟩ = some (.int .i64 q2) := by rw [cell_of_row _ _ _ _ _ _ HAx.out.bad]; rfl
            have e1 : wc.cell? ⟨Bx + 1, 4, none⟩ = some (.int .u64 E2) := by rw [cell_of_row _ _ _ _ _ _ HAx.out.got]; rfl
            have e2 : wc.cell? ⟨Bx + 1, 5, none⟩ = some (.slice A2 N2 C2) := by rw [cell_of_row _ _ _ _ _ _ HAx.out.got]; rfl
            have HDR : Hid (wc.grownBy wc.drew none) := gb_drew (World.grownBy.refl _ _)
            have hqq : (q2 != q2) = false := by simp
            have H14 : Hid (∀ u, Hid (wc.grownBy u none) → Calls Tryz.prog 14 #[.agg #[.int .u64 E2, .slice A2 N2 C2], .agg #[.int .u64 E2, .slice aw N2 cw]] u fun e w' => e = .returned (.bool true) ∧ Hid (wc.grownBy w' none) ∧ w'.cell? ⟨Bx + 2, 2, none⟩ = some (.int .i64 q2) ∧ w'.cell? ⟨Bx + 1, 4, none⟩ = some (.int .u64 E2) ∧ w'.cell? ⟨Bx + 1, 5, none⟩ = some (.slice A2 N2 C2) ∧ w'.cell? ⟨D, 0, none⟩ = some (.int .u64 E2) ∧ w'.cell? ⟨D, 1, none⟩ = some (.slice aw N2 cw)) := fun u h => by
              refine (rsame E2 E2 A2 aw R2 raww M2 M2 N2 N2 C2 cw u (HKx.out.1.rd.1.grown h.out) (HMW.out.grown h.out) EL2.out EL2.out (by have := SML2.out.1; have := EL2.out; omega) (fun s hs => by have := SML2.out.2 s hs; omega)).mono ?_
              rintro e w' ⟨rfl, h2⟩
              have g := h.out.trans h2
              exact ⟨by simp, g, g.cell e0 (by simp), g.cell e1 (by simp), g.cell e2 (by simp), g.cell d0 (by simp), g.cell d1 (by simp)⟩
            clear hgx hD hmw
            go_upto_region 17 with fail
            go_region_held3 (fun u => Hid (wc.grownBy u none) ∧ u.cell? ⟨Bx + 2, 2, none⟩ = some (.int .i64 q2) ∧ u.cell? ⟨Bx + 1, 4, none⟩ = some (.int .u64 E2) ∧ u.cell? ⟨Bx + 1, 5, none⟩ = some (.slice A2 N2 C2) ∧ u.cell? ⟨D, 0, none⟩ = some (.int .u64 E2) ∧ u.cell? ⟨D, 1, none⟩ = some (.slice aw N2 cw)) (first | exact ⟨HDR, e0, e1, e2, d0, d1⟩ | (refine ⟨?_, ?_, ?_, ?_, ?_, ?_⟩ <;> assumption)) (first | (go_at_call 14; refine (H14.out _ ?h1).mono ?_; (case h1 => first | exact HDR | assumption); rintro e z14 ⟨rfl, s14, i14, j14, k14, l14, m14⟩) | fail)
            have HA2 : Hid (GA z14 (Bx + 1) (Bx + 2) #[.int .u64 E0, .slice A0 N0 C0, .int .u64 E1, .slice A1 N1 C1, .int .u64 E2, .slice A2 N2 C2, .int .u64 E3, .slice A3 N3 C3] #[.int .i64 q0, .int .i64 q1, .int .i64 q2, .int .i64 q3]) := HAx.out.grown s14.out
            have C7 := spoil_ring E2 A2 N2 C2 b2 h2 R2 z14 (HKx.out.grown s14.out).2 (by have := SML2.out.1; have := EL2.out; omega) (by have h9 := (HKx.out.grown s14.out); have := HFH.out; have := HSW.out; have := HBH0.out; have := HBH1.out; have := HBH2.out; have := HBH3.out; have := HGW.out.size; have := s14.out.size; omega)
            have HBz : Hid (z14.heap[B]? = some (.cells #[.int .u64 E, .slice a n c] 25 (0, 0))) := by show _ = _; rw [(HGW.out.trans s14.out).block B (Array.getElem?_eq_some_iff.1 HB.out).1 (by simp)]; exact HB.out
            have HFz : Hid (z14.heap[Fb]? = some (.cells #[.int .i64 0, .int .i64 1, .int .i64 2, .int .i64 3] 3 (0, 0)) ∧ z14.heap[Fb + 1]? = some (.cells #[.int .i64 1, .int .i64 2, .int .i64 3, .int .i64 0] 3 (0, 0))) := ⟨by rw [(HGW.out.trans s14.out).block Fb (Array.getElem?_eq_some_iff.1 HFT.out.1).1 (by simp)]; exact HFT.out.1, by rw [(HGW.out.trans s14.out).block (Fb + 1) (Array.getElem?_eq_some_iff.1 HFT.out.2).1 (by simp)]; exact HFT.out.2⟩
            have HGz : Hid (w.grownBy z14 none) := HGx.out.trans s14.out
            have HWz : Hid (wr.grownBy z14 none) := HGW.out.trans s14.out
            clear e0 e1 e2 d0 d1
            go_wp2_with fail
            refine C7.mono ?_
            clear C7
            rintro e z22 ⟨rfl, md⟩
            have bb := HBB.out
            have bb0 := HBH0.out
            have bb1 := HBH1.out
            have bb2 := HBH2.out
            have bb3 := HBH3.out
            have HE0 : Hid (w.grownBy z22 none) := md_gb HGz.out md (by have := EB.out; omega)
            have HE1 : Hid (z22.heap[B]? = some (.cells #[.int .u64 E, .slice a n c] 25 (0, 0))) := by show _ = _; rw [md.block B (Array.getElem?_eq_some_iff.1 HBz.out).1 (.inl (by omega))]; exact HBz.out
            have HE2 : Hid (GA z22 (Bx + 1) (Bx + 2) #[.int .u64 E0, .slice A0 N0 C0, .int .u64 E1, .slice A1 N1 C1, .int .u64 E2, .slice A2 N2 C2, .int .u64 E3, .slice A3 N3 C3] #[.int .i64 q0, .int .i64 q1, .int .i64 q2, .int .i64 q3]) := HA2.out.md md ⟨.inl (by omega), .inl (by omega)⟩
            have HE3 : Hid (z22.heap[Fb]? = some (.cells #[.int .i64 0, .int .i64 1, .int .i64 2, .int .i64 3] 3 (0, 0)) ∧ z22.heap[Fb + 1]? = some (.cells #[.int .i64 1, .int .i64 2, .int .i64 3, .int .i64 0] 3 (0, 0))) := ⟨by rw [md.block Fb (Array.getElem?_eq_some_iff.1 HFz.out.1).1 (.inr (by have := HFH.out; omega))]; exact HFz.out.1, by rw [md.block (Fb + 1) (Array.getElem?_eq_some_iff.1 HFz.out.2).1 (.inr (by have := HFH.out; omega))]; exact HFz.out.2⟩
            have J3 : Hid (Got z22 b3 h3 A3 N3 C3 M3 R3) := ((K3.out (by omega)).grown HWz.out).md md (by omega)
            clear md bb bb0 bb1 bb2 bb3
            go_wp2
            go_roundw
            case rel =>
              exact ⟨3, by omega, by go_num, HE0.out, HE1.out, HE2.out, HE3.out, (fun h => by omega), (fun h => by omega), (fun h => by omega), (fun _ => J3.out)⟩
            case measure => simp [intOf]
        · have HK3 : Hid (Got wr b3 h3 A3 N3 C3 M3 R3) := K3.out (by omega)
          obtain ⟨y0, y1⟩ := cell2 HB.out
          have yF : wr.cell? ⟨Fb, 3, none⟩ = some (.int .i64 3) := by rw [cell_of_row _ _ _ _ _ _ HFT.out.1]; rfl
          have yT : wr.cell? ⟨Fb + 1, 3, none⟩ = some (.int .i64 0) := by rw [cell_of_row _ _ _ _ _ _ HFT.out.2]; rfl
          have KS : Hid (∀ u, wr.grownBy u none → u.cell? ⟨B, 0, none⟩ = some (.int .u64 E) ∧ u.cell? ⟨B, 1, none⟩ = some (.slice a n c) ∧ u.cell? ⟨Fb, 3, none⟩ = some (.int .i64 3) ∧ u.cell? ⟨Fb + 1, 3, none⟩ = some (.int .i64 0)) := fun u g => ⟨g.cell y0 (by simp), g.cell y1 (by simp), g.cell yF (by simp), g.cell yT (by simp)⟩
          have HDR : Hid (wr.grownBy wr.drew none) := gb_drew (World.grownBy.refl _ _)
          have H23 : Hid (∀ u, Hid (wr.grownBy u none) → Calls Tryz.prog 23 #[.agg #[.int .u64 E, .slice a n c], .int .i64 id, .int .i64 3, .int .i64 0] u fun e w' => ∃ a' c' raw', e = .returned (.tuple #[.agg #[.int .u64 E3, .slice a' N3 c'], .int .i64 q3]) ∧ Hid (MsRd w' a' M3 raw') ∧ Hid (u.grownBy w' none)) := fun u h => (RC3.out u a c raw (HR.out.grown (HG.out.trans h.out))).mono fun e w' ⟨a', c', raw', h1, h2, h3⟩ => ⟨a', c', raw', h1, h2, h3⟩
          go_upto_region 16 with fail
          go_cut [11, 12] from 79 to 113 (fun t11 t12 wx => ∃ D aw cw raww, t11 = .pointer (some ⟨D, 0, none⟩) ∧ t12 = .int .i64 q3 ∧ wr.grownBy wx none ∧ wx.heap[D]? = some (.cells #[.int .u64 E3, .slice aw N3 cw] 25 (0, 0)) ∧ MsRd wx aw M3 raww)
          case first =>
            refine wp_region_held_drew (S := fun u => u.cell? ⟨B, 0, none⟩ = some (.int .u64 E) ∧ u.cell? ⟨B, 1, none⟩ = some (.slice a n c) ∧ u.cell? ⟨Fb, 3, none⟩ = some (.int .i64 3) ∧ u.cell? ⟨Fb + 1, 3, none⟩ = some (.int .i64 0)) (by kernel_rfl) (KS.out _ HDR.out) (fun hHeld => ?_)
            refine wpAnyH_take (i := 0) (v := .agg #[.int .u64 E, .slice a n c]) rfl (by kernel_rfl) (by kernel_rfl) (by kernel_rfl) (fun _ _ _ h => h) (Or.inl ⟨by rfl, fun w hSw => ?_⟩) (by assumption) ?_
            · obtain ⟨t0, t1, t2, t3⟩ := hSw; go_simp
            (try simp only [Act.put]); (try simp only [List.setIfInBounds_toArray]); (try simp only [List.set_cons_succ]); (try simp only [List.set_cons_zero])
            refine wpAnyH_take (i := 1) (v := .int .i64 id) rfl (by kernel_rfl) (by kernel_rfl) (by kernel_rfl) (fun _ _ _ h => h) (Or.inl ⟨by rfl, fun w hSw => ?_⟩) (by assumption) ?_
            · go_simp
            (try simp only [Act.put]); (try simp only [List.setIfInBounds_toArray]); (try simp only [List.set_cons_succ]); (try simp only [List.set_cons_zero])
            refine wpAnyH_take (i := 2) (v := .slice (some ⟨Fb, 0, none⟩) 4 4) rfl (by kernel_rfl) (by kernel_rfl) (by kernel_rfl) (fun _ _ _ h => h) (Or.inl ⟨by rfl, fun w hSw => ?_⟩) (by assumption) ?_
            · go_simp
            (try simp only [Act.put]); (try simp only [List.setIfInBounds_toArray]); (try simp only [List.set_cons_succ]); (try simp only [List.set_cons_zero])
            refine wpAnyH_take (i := 3) (v := .int .i64 3) rfl (by kernel_rfl) (by kernel_rfl) (by kernel_rfl) (fun _ _ _ h => h) (Or.inl ⟨by rfl, fun w hSw => ?_⟩) (by assumption) ?_
            · go_simp
            (try simp only [Act.put]); (try simp only [List.setIfInBounds_toArray]); (try simp only [List.set_cons_succ]); (try simp only [List.set_cons_zero])
            refine wpAnyH_take (i := 4) (v := .pointer (some ⟨Fb, 3, none⟩)) rfl (by kernel_rfl) (by kernel_rfl) (by kernel_rfl) (fun _ _ _ h => h) (Or.inl ⟨by rfl, fun w hSw => ?_⟩) (by assumption) ?_
            · go_simp
            (try simp only [Act.put]); (try simp only [List.setIfInBounds_toArray]); (try simp only [List.set_cons_succ]); (try simp only [List.set_cons_zero])
            refine wpAnyH_take (i := 5) (v := .int .i64 3) rfl (by kernel_rfl) (by kernel_rfl) (by kernel_rfl) (fun _ _ _ h => h) (Or.inl ⟨by rfl, fun w hSw => ?_⟩) (by assumption) ?_
            · obtain ⟨t0, t1, t2, t3⟩ := hSw; go_simp
            (try simp only [Act.put]); (try simp only [List.setIfInBounds_toArray]); (try simp only [List.set_cons_succ]); (try simp only [List.set_cons_zero])
            refine wpAnyH_take (i := 6) (v := .slice (some ⟨Fb + 1, 0, none⟩) 4 4) rfl (by kernel_rfl) (by kernel_rfl) (by kernel_rfl) (fun _ _ _ h => h) (Or.inl ⟨by rfl, fun w hSw => ?_⟩) (by assumption) ?_
            · go_simp
            (try simp only [Act.put]); (try simp only [List.setIfInBounds_toArray]); (try simp only [List.set_cons_succ]); (try simp only [List.set_cons_zero])
            refine wpAnyH_take (i := 7) (v := .int .i64 3) rfl (by kernel_rfl) (by kernel_rfl) (by kernel_rfl) (fun _ _ _ h => h) (Or.inl ⟨by rfl, fun w hSw => ?_⟩) (by assumption) ?_
            · go_simp
            (try simp only [Act.put]); (try simp only [List.setIfInBounds_toArray]); (try simp only [List.set_cons_succ]); (try simp only [List.set_cons_zero])
            refine wpAnyH_take (i := 8) (v := .pointer (some ⟨Fb + 1, 3, none⟩)) rfl (by kernel_rfl) (by kernel_rfl) (by kernel_rfl) (fun _ _ _ h => h) (Or.inl ⟨by rfl, fun w hSw => ?_⟩) (by assumption) ?_
            · go_simp
            (try simp only [Act.put]); (try simp only [List.setIfInBounds_toArray]); (try simp only [List.set_cons_succ]); (try simp only [List.set_cons_zero])
            refine wpAnyH_take (i := 9) (v := .int .i64 0) rfl (by kernel_rfl) (by kernel_rfl) (by kernel_rfl) (fun _ _ _ h => h) (Or.inl ⟨by rfl, fun w hSw => ?_⟩) (by assumption) ?_
            · obtain ⟨t0, t1, t2, t3⟩ := hSw; go_simp
            (try simp only [Act.put]); (try simp only [List.setIfInBounds_toArray]); (try simp only [List.set_cons_succ]); (try simp only [List.set_cons_zero])
            refine wpAnyH_ready (rs := [10, 14]) (by kernel_rfl) (by simp) (AllReadyH.cons (i := 10) rfl (fun K9 hK => ?_) (AllReadyH.cons (i := 14) rfl (fun K9 hK => ?_) AllReadyH.nil))
            · go_simp
              refine (H23.out _ HDR).mono ?_
              rintro e z23 ⟨aw, cw, raww, rfl, mw, g23⟩
              have HZ1 : Hid (wr.grownBy z23 none) := HDR.out.trans g23.out
              refine hK.out _ _ (KS.out _ HZ1.out) (fun hHeld => ?_)
              clear hK K9
              (try simp only [Act.put]); (try simp only [List.setIfInBounds_toArray]); (try simp only [List.set_cons_succ]); (try simp only [List.set_cons_zero])
              refine wpAnyH_take (i := 11) (v := .tuple #[.agg #[.int .u64 E3, .slice aw N3 cw], .int .i64 q3]) rfl (by kernel_rfl) (by kernel_rfl) (by kernel_rfl) (fun _ _ _ h => h) (Or.inl ⟨by rfl, fun w hSw => ?_⟩) (by assumption) ?_
              · go_simp
              (try simp only [Act.put]); (try simp only [List.setIfInBounds_toArray]); (try simp only [List.set_cons_succ]); (try simp only [List.set_cons_zero])
              refine wpAnyH_take (i := 12) (v := .agg #[.int .u64 E3, .slice aw N3 cw]) rfl (by kernel_rfl) (by kernel_rfl) (by kernel_rfl) (fun _ _ _ h => h) (Or.inl ⟨by rfl, fun w hSw => ?_⟩) (by assumption) ?_
              · go_simp
              (try simp only [Act.put]); (try simp only [List.setIfInBounds_toArray]); (try simp only [List.set_cons_succ]); (try simp only [List.set_cons_zero])
              refine wpAnyH_take (i := 13) (v := .int .i64 q3) rfl (by kernel_rfl) (by kernel_rfl) (by kernel_rfl) (fun _ _ _ h => h) (Or.inl ⟨by rfl, fun w hSw => ?_⟩) (by assumption) ?_
              · go_simp
              (try simp only [Act.put]); (try simp only [List.setIfInBounds_toArray]); (try simp only [List.set_cons_succ]); (try simp only [List.set_cons_zero])
              refine wpAnyH_ready (rs := [14]) (by kernel_rfl) (by simp) (AllReadyH.cons (i := 14) rfl (fun K9 hK => ?_) AllReadyH.nil)
              go_simp
              obtain ⟨D, eD⟩ : ∃ D, z23.heap.size = D := ⟨_, rfl⟩
              have ED : Hid (z23.heap.size = D) := eD
              have HZD : Hid ((z23.alloc (.cells #[.int .u64 0, .slice none 0 0] 25)).heap[D]? = some (.cells #[.int .u64 0, .slice none 0 0] 25 (0, 0))) := by show _ = _; rw [← eD]; exact heap_alloc_new z23 _
              have HZG : Hid (wr.grownBy (z23.alloc (.cells #[.int .u64 0, .slice none 0 0] 25)) none) := HZ1.out.trans (World.grownBy_alloc _ _ none)
              have HZM : Hid (MsRd (z23.alloc (.cells #[.int .u64 0, .slice none 0 0] 25)) aw M3 raww) := mw.out.grown (World.grownBy_alloc _ _ none)
              have HDL : Hid (wr.heap.size ≤ D) := by show _ ≤ _; rw [← eD]; exact HZ1.out.size
              clear eD
              refine hK.out _ _ (KS.out _ HZG.out) (fun hHeld => ?_)
              clear hK K9
              (try simp only [Act.put]); (try simp only [List.setIfInBounds_toArray]); (try simp only [List.set_cons_succ]); (try simp only [List.set_cons_zero])
              try rw [ED.out]
              generalize z23.alloc (.cells #[.int .u64 0, .slice none 0 0] 25) = ZA at *
              obtain ⟨c0, c1⟩ := cell2 HZD.out
              have f0 := free_row HZD.out 0
              have f1 := free_row HZD.out 1
              refine wpAnyH_ready (rs := [15]) (by kernel_rfl) (by simp) (AllReadyH.cons (i := 15) rfl (fun K9 hK => ?_) AllReadyH.nil)
              go_simp
              have HXD : Hid (((ZA.setCell ⟨D, 0, none⟩ (.int .u64 E3)).setCell ⟨D, 1, none⟩ (.slice aw N3 cw)).heap[D]? = some (.cells #[.int .u64 E3, .slice aw N3 cw] 25 (0, 0))) := pair_set HZD.out _ _
              have gDD : ZA.grownBy ((ZA.setCell ⟨D, 0, none⟩ (.int .u64 E3)).setCell ⟨D, 1, none⟩ (.slice aw N3 cw)) (some D) := gb_trans (gb_set (g := D) rfl) (gb_set (g := D) rfl) (fun j hj => .inr hj)
              have HXG : Hid (wr.grownBy ((ZA.setCell ⟨D, 0, none⟩ (.int .u64 E3)).setCell ⟨D, 1, none⟩ (.slice aw N3 cw)) none) := gb_trans HZG.out gDD (fun j hj => .inl (by cases hj; exact HDL.out))
              have HXW : Hid (MsRd ((ZA.setCell ⟨D, 0, none⟩ (.int .u64 E3)).setCell ⟨D, 1, none⟩ (.slice aw N3 cw)) aw M3 raww) := msrd_box HZD.out HZM.out gDD
              refine hK.out _ _ (KS.out _ HXG.out) (fun hHeld => ?_)
              clear hK K9 c0 c1 f0 f1 gDD
              (try simp only [Act.put]); (try simp only [List.setIfInBounds_toArray]); (try simp only [List.set_cons_succ]); (try simp only [List.set_cons_zero])
              refine wpAnyH_take (i := 16) (v := .int .i64 q3) rfl (by kernel_rfl) (by kernel_rfl) (by kernel_rfl) (fun _ _ _ h => h) (Or.inl ⟨by rfl, fun w hSw => ?_⟩) (by assumption) ?_
              · go_simp
              (try simp only [Act.put]); (try simp only [List.setIfInBounds_toArray]); (try simp only [List.set_cons_succ]); (try simp only [List.set_cons_zero])
              refine wpAnyH_done (by kernel_rfl) ?_ _
              clear hHeld
              go_wp2
              try (rename_i hd9; cases hd9)
              go_meet
              exact ⟨D, aw, cw, raww, rfl, rfl, HXG.out, HXD.out, HXW.out⟩
            · go_simp
              obtain ⟨D, eD⟩ : ∃ D, wr.heap.size = D := ⟨_, rfl⟩
              have ED : Hid (wr.heap.size = D) := eD
              have HZ0 : Hid ((wr.drew.alloc (.cells #[.int .u64 0, .slice none 0 0] 25)).heap[D]? = some (.cells #[.int .u64 0, .slice none 0 0] 25 (0, 0))) := by show _ = _; rw [← eD]; exact heap_alloc_new wr.drew _
              have HZ1 : Hid (wr.grownBy (wr.drew.alloc (.cells #[.int .u64 0, .slice none 0 0] 25)) none) := HDR.out.trans (World.grownBy_alloc _ _ none)
              have HDL : Hid (wr.heap.size ≤ D) := by show _ ≤ _; omega
              clear eD
              refine hK.out _ _ (KS.out _ HZ1.out) (fun hHeld => ?_)
              clear hK K9
              (try simp only [Act.put]); (try simp only [List.setIfInBounds_toArray]); (try simp only [List.set_cons_succ]); (try simp only [List.set_cons_zero])
              try rw [ED.out]
              refine wpAnyH_ready (rs := [10]) (by kernel_rfl) (by simp) (AllReadyH.cons (i := 10) rfl (fun K9 hK => ?_) AllReadyH.nil)
              go_simp
              refine (H23.out _ HZ1).mono ?_
              rintro e ZA ⟨aw, cw, raww, rfl, mw, g23⟩
              have HZG : Hid (wr.grownBy ZA none) := HZ1.out.trans g23.out
              have HZD : Hid (ZA.heap[D]? = some (.cells #[.int .u64 0, .slice none 0 0] 25 (0, 0))) := by show _ = _; rw [g23.out.block D (Array.getElem?_eq_some_iff.1 HZ0.out).1 (by simp)]; exact HZ0.out
              have HZM : Hid (MsRd ZA aw M3 raww) := mw.out
              refine hK.out _ _ (KS.out _ HZG.out) (fun hHeld => ?_)
              clear hK K9
              (try simp only [Act.put]); (try simp only [List.setIfInBounds_toArray]); (try simp only [List.set_cons_succ]); (try simp only [List.set_cons_zero])
              refine wpAnyH_take (i := 11) (v := .tuple #[.agg #[.int .u64 E3, .slice aw N3 cw], .int .i64 q3]) rfl (by kernel_rfl) (by kernel_rfl) (by kernel_rfl) (fun _ _ _ h => h) (Or.inl ⟨by rfl, fun w hSw => ?_⟩) (by assumption) ?_
              · go_simp
              (try simp only [Act.put]); (try simp only [List.setIfInBounds_toArray]); (try simp only [List.set_cons_succ]); (try simp only [List.set_cons_zero])
              refine wpAnyH_take (i := 12) (v := .agg #[.int .u64 E3, .slice aw N3 cw]) rfl (by kernel_rfl) (by kernel_rfl) (by kernel_rfl) (fun _ _ _ h => h) (Or.inl ⟨by rfl, fun w hSw => ?_⟩) (by assumption) ?_
              · go_simp
              (try simp only [Act.put]); (try simp only [List.setIfInBounds_toArray]); (try simp only [List.set_cons_succ]); (try simp only [List.set_cons_zero])
              refine wpAnyH_take (i := 13) (v := .int .i64 q3) rfl (by kernel_rfl) (by kernel_rfl) (by kernel_rfl) (fun _ _ _ h => h) (Or.inl ⟨by rfl, fun w hSw => ?_⟩) (by assumption) ?_
              · go_simp
              (try simp only [Act.put]); (try simp only [List.setIfInBounds_toArray]); (try simp only [List.set_cons_succ]); (try simp only [List.set_cons_zero])
              obtain ⟨c0, c1⟩ := cell2 HZD.out
              have f0 := free_row HZD.out 0
              have f1 := free_row HZD.out 1
              refine wpAnyH_ready (rs := [15]) (by kernel_rfl) (by simp) (AllReadyH.cons (i := 15) rfl (fun K9 hK => ?_) AllReadyH.nil)
              go_simp
              have HXD : Hid (((ZA.setCell ⟨D, 0, none⟩ (.int .u64 E3)).setCell ⟨D, 1, none⟩ (.slice aw N3 cw)).heap[D]? = some (.cells #[.int .u64 E3, .slice aw N3 cw] 25 (0, 0))) := pair_set HZD.out _ _
              have gDD : ZA.grownBy ((ZA.setCell ⟨D, 0, none⟩ (.int .u64 E3)).setCell ⟨D, 1, none⟩ (.slice aw N3 cw)) (some D) := gb_trans (gb_set (g := D) rfl) (gb_set (g := D) rfl) (fun j hj => .inr hj)
              have HXG : Hid (wr.grownBy ((ZA.setCell ⟨D, 0, none⟩ (.int .u64 E3)).setCell ⟨D, 1, none⟩ (.slice aw N3 cw)) none) := gb_trans HZG.out gDD (fun j hj => .inl (by cases hj; exact HDL.out))
              have HXW : Hid (MsRd ((ZA.setCell ⟨D, 0, none⟩ (.int .u64 E3)).setCell ⟨D, 1, none⟩ (.slice aw N3 cw)) aw M3 raww) := msrd_box HZD.out HZM.out gDD
              refine hK.out _ _ (KS.out _ HXG.out) (fun hHeld => ?_)
              clear hK K9 c0 c1 f0 f1 gDD
              (try simp only [Act.put]); (try simp only [List.setIfInBounds_toArray]); (try simp only [List.set_cons_succ]); (try simp only [List.set_cons_zero])
              refine wpAnyH_take (i := 16) (v := .int .i64 q3) rfl (by kernel_rfl) (by kernel_rfl) (by kernel_rfl) (fun _ _ _ h => h) (Or.inl ⟨by rfl, fun w hSw => ?_⟩) (by assumption) ?_
              · go_simp
              (try simp only [Act.put]); (try simp only [List.setIfInBounds_toArray]); (try simp only [List.set_cons_succ]); (try simp only [List.set_cons_zero])
              refine wpAnyH_done (by kernel_rfl) ?_ _
              clear hHeld
              go_wp2
              try (rename_i hd9; cases hd9)
              go_meet
              exact ⟨D, aw, cw, raww, rfl, rfl, HXG.out, HXD.out, HXW.out⟩
          case rest =>
            obtain ⟨D, aw, cw, raww, rfl, rfl, hgx, hD, hmw⟩ := hcut
            clear y0 y1 yF yT KS HDR H23
            have HGx : Hid (w.grownBy wc none) := HG.out.trans hgx
            have HAx : Hid (GA wc (Bx + 1) (Bx + 2) #[.int .u64 E0, .slice A0 N0 C0, .int .u64 E1, .slice A1 N1 C1, .int .u64 E2, .slice A2 N2 C2, .int .u64 E3, .slice A3 N3 C3] #[.int .i64 q0, .int .i64 q1, .int .i64 q2, .int .i64 q3]) := HA.out.grown hgx
            have HKx : Hid (Got wc b3 h3 A3 N3 C3 M3 R3) := HK3.out.grown hgx
            have HGW : Hid (wr.grownBy wc none) := hgx
            have HMW : Hid (MsRd wc aw M3 raww) := hmw
            obtain ⟨d0, d1⟩ := cell2 hD
            have e0 : wc.cell? ⟨Bx + 2, 3, none⟩ = some (.int .i64 q3) := by rw [cell_of_row _ _ _ _ _ _ HAx.out.bad]; rfl
            have e1 : wc.cell? ⟨Bx + 1, 6, none⟩ = some (.int .u64 E3) := by rw [cell_of_row _ _ _ _ _ _ HAx.out.got]; rfl
            have e2 : wc.cell? ⟨Bx + 1, 7, none⟩ = some (.slice A3 N3 C3) := by rw [cell_of_row _ _ _ _ _ _ HAx.out.got]; rfl
            have HDR : Hid (wc.grownBy wc.drew none) := gb_drew (World.grownBy.refl _ _)
            have hqq : (q3 != q3) = false := by simp
            have H14 : Hid (∀ u, Hid (wc.grownBy u none) → Calls Tryz.prog 14 #[.agg #[.int .u64 E3, .slice A3 N3 C3], .agg #[.int .u64 E3, .slice aw N3 cw]] u fun e w' => e = .returned (.bool true) ∧ Hid (wc.grownBy w' none) ∧ w'.cell? ⟨Bx + 2, 3, none⟩ = some (.int .i64 q3) ∧ w'.cell? ⟨Bx + 1, 6, none⟩ = some (.int .u64 E3) ∧ w'.cell? ⟨Bx + 1, 7, none⟩ = some (.slice A3 N3 C3) ∧ w'.cell? ⟨D, 0, none⟩ = some (.int .u64 E3) ∧ w'.cell? ⟨D, 1, none⟩ = some (.slice aw N3 cw)) := fun u h => by
              refine (rsame E3 E3 A3 aw R3 raww M3 M3 N3 N3 C3 cw u (HKx.out.1.rd.1.grown h.out) (HMW.out.grown h.out) EL3.out EL3.out (by have := SML3.out.1; have := EL3.out; omega) (fun s hs => by have := SML3.out.2 s hs; omega)).mono ?_
              rintro e w' ⟨rfl, h2⟩
              have g := h.out.trans h2
              exact ⟨by simp, g, g.cell e0 (by simp), g.cell e1 (by simp), g.cell e2 (by simp), g.cell d0 (by simp), g.cell d1 (by simp)⟩
            clear hgx hD hmw
            go_upto_region 17 with fail
            go_region_held3 (fun u => Hid (wc.grownBy u none) ∧ u.cell? ⟨Bx + 2, 3, none⟩ = some (.int .i64 q3) ∧ u.cell? ⟨Bx + 1, 6, none⟩ = some (.int .u64 E3) ∧ u.cell? ⟨Bx + 1, 7, none⟩ = some (.slice A3 N3 C3) ∧ u.cell? ⟨D, 0, none⟩ = some (.int .u64 E3) ∧ u.cell? ⟨D, 1, none⟩ = some (.slice aw N3 cw)) (first | exact ⟨HDR, e0, e1, e2, d0, d1⟩ | (refine ⟨?_, ?_, ?_, ?_, ?_, ?_⟩ <;> assumption)) (first | (go_at_call 14; refine (H14.out _ ?h1).mono ?_; (case h1 => first | exact HDR | assumption); rintro e z14 ⟨rfl, s14, i14, j14, k14, l14, m14⟩) | fail)
            have HA2 : Hid (GA z14 (Bx + 1) (Bx + 2) #[.int .u64 E0, .slice A0 N0 C0, .int .u64 E1, .slice A1 N1 C1, .int .u64 E2, .slice A2 N2 C2, .int .u64 E3, .slice A3 N3 C3] #[.int .i64 q0, .int .i64 q1, .int .i64 q2, .int .i64 q3]) := HAx.out.grown s14.out
            have C7 := spoil_ring E3 A3 N3 C3 b3 h3 R3 z14 (HKx.out.grown s14.out).2 (by have := SML3.out.1; have := EL3.out; omega) (by have h9 := (HKx.out.grown s14.out); have := HFH.out; have := HSW.out; have := HBH0.out; have := HBH1.out; have := HBH2.out; have := HBH3.out; have := HGW.out.size; have := s14.out.size; omega)
            have HBz : Hid (z14.heap[B]? = some (.cells #[.int .u64 E, .slice a n c] 25 (0, 0))) := by show _ = _; rw [(HGW.out.trans s14.out).block B (Array.getElem?_eq_some_iff.1 HB.out).1 (by simp)]; exact HB.out
            have HFz : Hid (z14.heap[Fb]? = some (.cells #[.int .i64 0, .int .i64 1, .int .i64 2, .int .i64 3] 3 (0, 0)) ∧ z14.heap[Fb + 1]? = some (.cells #[.int .i64 1, .int .i64 2, .int .i64 3, .int .i64 0] 3 (0, 0))) := ⟨by rw [(HGW.out.trans s14.out).block Fb (Array.getElem?_eq_some_iff.1 HFT.out.1).1 (by simp)]; exact HFT.out.1, by rw [(HGW.out.trans s14.out).block (Fb + 1) (Array.getElem?_eq_some_iff.1 HFT.out.2).1 (by simp)]; exact HFT.out.2⟩
            have HGz : Hid (w.grownBy z14 none) := HGx.out.trans s14.out
            have HWz : Hid (wr.grownBy z14 none) := HGW.out.trans s14.out
            clear e0 e1 e2 d0 d1
            go_wp2_with fail
            refine C7.mono ?_
            clear C7
            rintro e z22 ⟨rfl, md⟩
            have bb := HBB.out
            have bb0 := HBH0.out
            have bb1 := HBH1.out
            have bb2 := HBH2.out
            have bb3 := HBH3.out
            have HE0 : Hid (w.grownBy z22 none) := md_gb HGz.out md (by have := EB.out; omega)
            have HE1 : Hid (z22.heap[B]? = some (.cells #[.int .u64 E, .slice a n c] 25 (0, 0))) := by show _ = _; rw [md.block B (Array.getElem?_eq_some_iff.1 HBz.out).1 (.inl (by omega))]; exact HBz.out
            have HE2 : Hid (GA z22 (Bx + 1) (Bx + 2) #[.int .u64 E0, .slice A0 N0 C0, .int .u64 E1, .slice A1 N1 C1, .int .u64 E2, .slice A2 N2 C2, .int .u64 E3, .slice A3 N3 C3] #[.int .i64 q0, .int .i64 q1, .int .i64 q2, .int .i64 q3]) := HA2.out.md md ⟨.inl (by omega), .inl (by omega)⟩
            have HE3 : Hid (z22.heap[Fb]? = some (.cells #[.int .i64 0, .int .i64 1, .int .i64 2, .int .i64 3] 3 (0, 0)) ∧ z22.heap[Fb + 1]? = some (.cells #[.int .i64 1, .int .i64 2, .int .i64 3, .int .i64 0] 3 (0, 0))) := ⟨by rw [md.block Fb (Array.getElem?_eq_some_iff.1 HFz.out.1).1 (.inr (by have := HFH.out; omega))]; exact HFz.out.1, by rw [md.block (Fb + 1) (Array.getElem?_eq_some_iff.1 HFz.out.2).1 (.inr (by have := HFH.out; omega))]; exact HFz.out.2⟩
            clear md bb bb0 bb1 bb2 bb3
            go_wp2
            go_roundw
            case rel =>
              exact ⟨4, by omega, by go_num, HE0.out, HE1.out, HE2.out, HE3.out, (fun h => by omega), (fun h => by omega), (fun h => by omega), (fun h => by omega)⟩
            case measure => simp [intOf]
      · obtain rfl : i = 4 := by omega
        have C6 := AW.out wr
        go_wp2_with fail
        refine C6.mono ?_
        rintro e z9 ⟨rfl, g9⟩
        have HZ : Hid (w.grownBy z9 none) := HG.out.trans g9
        clear g9 C6
        go_wp2
        go_ret
        exact ⟨rfl, HZ.out⟩
end Go.Proofs.YtaljjemickonaaaGreat

